/- Texts of the proof, part 5: KpRules, KpRow, KpMuch, RcSize, SgRecSize, SgSize, KpSizeOf, KpOld, KpOldOf, KpNum, KpWakes. -/
import Derived.Test.YtgadgmcabjnjjaaChecked
import Derived.Test.YtgadgmcabjnjjaaW04
/- Package keep: whether rules may be; the document's own answer too. -/
namespace Go.Proofs.Ytgadgmcabjnjjaa.Kpd
open Go.RowKit Go.Lib Rcd

def ruarr (sb by_ ag : Int) (co : Bool) (gr : Int) : Array Value := #[.int .i64 sb, .int .i64 by_, .int .i64 ag, .bool co, .int .i64 gr]
def ruagg (r : Ru) : Value := .agg (ruarr r.sb r.by_ r.ag r.co r.gr)
def ruE (r : Ru) : Int := if ruB r then 0 else 1
theorem info_ru : (Try.prog.info? 25).map (·.size) = some 5 := by kernel_rfl
theorem load_ru {W : World} {g : Nat} {cs : Array Value} (h : Blk W g cs) (h9 : cs.size = 5) : (loadVar 25 ⟨g, 0, none⟩).run Try.prog W = .ok (.agg cs) W :=
  run_loadVar_mid W g 0 25 cs.toList _ (fun j v hv => by rw [Nat.zero_add, h.cell j]; rw [← hv]; simp) Try.underlying25 rfl (by rw [info_ru]; simp [h9])

set_option maxRecDepth 100000 in
set_option maxHeartbeats 1000000 in
theorem kWithin_is (n a b : Int) (X : Bool) (w : World) (h : decide (a ≤ n ∧ n ≤ b) = X) :
    Calls Try.prog 31 #[.int .i64 n, .int .i64 a, .int .i64 b] w fun e w' => e = .returned (.bool X) ∧ w = w' := by
  have HX := Lib.hid h
  clear h
  by_cases h1 : a ≤ n
  · by_cases h2 : n ≤ b
    · go_enter Try.func31, Try.ntmps31
      go_wp2
      go_ret
      exact ⟨ret_bool (by rw [← HX.out]; exact (decide_eq_true (by omega)).symm), rfl⟩
    · go_enter Try.func31, Try.ntmps31
      go_wp2
      go_ret
      exact ⟨ret_bool (by rw [← HX.out]; exact (decide_eq_false (by omega)).symm), rfl⟩
  · go_enter Try.func31, Try.ntmps31
    go_wp2
    go_ret
    exact ⟨ret_bool (by rw [← HX.out]; exact (decide_eq_false (by omega)).symm), rfl⟩

theorem ru_ways (r : Ru) :
    (decide (1 ≤ r.sb ∧ r.sb ≤ 32768) = false ∧ ruB r = false) ∨
    (decide (1 ≤ r.sb ∧ r.sb ≤ 32768) = true ∧ decide (-1 ≤ r.by_ ∧ r.by_ ≤ 1073741824) = false ∧ ruB r = false) ∨
    (decide (1 ≤ r.sb ∧ r.sb ≤ 32768) = true ∧ decide (-1 ≤ r.by_ ∧ r.by_ ≤ 1073741824) = true ∧ decide (-1 ≤ r.ag ∧ r.ag ≤ 1073741824) = false ∧ ruB r = false) ∨
    (decide (1 ≤ r.sb ∧ r.sb ≤ 32768) = true ∧ decide (-1 ≤ r.by_ ∧ r.by_ ≤ 1073741824) = true ∧ decide (-1 ≤ r.ag ∧ r.ag ≤ 1073741824) = true ∧ decide (0 ≤ r.gr ∧ r.gr ≤ 1073741824) = ruB r) := by
  unfold ruB
  by_cases c1 : 1 ≤ r.sb ∧ r.sb ≤ 32768
  · by_cases c2 : -1 ≤ r.by_ ∧ r.by_ ≤ 1073741824
    · by_cases c3 : -1 ≤ r.ag ∧ r.ag ≤ 1073741824
      · exact .inr (.inr (.inr ⟨decide_eq_true c1, decide_eq_true c2, decide_eq_true c3, by
          by_cases c4 : 0 ≤ r.gr ∧ r.gr ≤ 1073741824
          · rw [decide_eq_true c4, decide_eq_true ⟨c1, c2, c3, c4⟩]
          · rw [decide_eq_false c4, decide_eq_false (fun h => c4 h.2.2.2)]⟩))
      · exact .inr (.inr (.inl ⟨decide_eq_true c1, decide_eq_true c2, decide_eq_false c3, decide_eq_false fun h => c3 h.2.2.1⟩))
    · exact .inr (.inl ⟨decide_eq_true c1, decide_eq_false c2, decide_eq_false fun h => c2 h.2.1⟩)
  · exact .inl ⟨decide_eq_false c1, decide_eq_false fun h => c1 h.1⟩
theorem ru_yes {r : Ru} (h : ruB r = true) : (1 ≤ r.sb ∧ r.sb ≤ 32768) ∧ (-1 ≤ r.by_ ∧ r.by_ ≤ 1073741824) ∧ (-1 ≤ r.ag ∧ r.ag ≤ 1073741824) ∧ (0 ≤ r.gr ∧ r.gr ≤ 1073741824) := decide_eq_true_iff.1 h

set_option maxRecDepth 100000 in
set_option maxHeartbeats 4000000 in
/-- keep.Rules. -/
theorem Rules_is (r : Ru) (E : Int) (w : World) (hE : ruE r = E) :
    Calls Try.prog 16 #[ruagg r] w fun e w' => e = .returned (.int .i64 E) ∧ Below w.heap.size w w' := by
  have hway := ru_ways r
  unfold ruE at hE
  obtain ⟨X, hX⟩ : ∃ X, ruB r = X := ⟨_, rfl⟩
  rw [hX] at hway hE
  unfold ruagg
  obtain ⟨sb, by_, ag, co, gr⟩ := r
  dsimp only at hway ⊢
  have R0 := Lib.hid (RBox.new w 25 (ruarr sb by_ ag co gr))
  obtain ⟨p, hp⟩ : ∃ p, w.heap.size = p := ⟨_, rfl⟩
  obtain ⟨W0, hW⟩ : ∃ W0, w.alloc (.cells (ruarr sb by_ ag co gr) 25) = W0 := ⟨_, rfl⟩
  rw [hW, hp] at R0
  unfold ruarr at R0 hW ⊢
  have HW := Lib.hid hW
  have HP := Lib.hid hp
  clear hW hp hX
  have d0 : W0.cell? ⟨p, 0, none⟩ = some (.int .i64 sb) := R0.out.cell 0
  have d1 : W0.cell? ⟨p, 1, none⟩ = some (.int .i64 by_) := R0.out.cell 1
  have d2 : W0.cell? ⟨p, 2, none⟩ = some (.int .i64 ag) := R0.out.cell 2
  have d4 : W0.cell? ⟨p, 4, none⟩ = some (.int .i64 gr) := R0.out.cell 4
  rcases hway with ⟨h1, rfl⟩ | ⟨h1, h2, rfl⟩ | ⟨h1, h2, h3, rfl⟩ | ⟨h1, h2, h3, h4⟩
  · obtain rfl : 1 = E := hE
    have H1 := Lib.hid h1
    clear h1
    go_enter Try.func16, Try.ntmps16
    go_upto_region 1 with fail
    rw [HW.out, HP.out]
    clear HW HP
    go_wp2_with (go_at_call 31; refine (kWithin_is _ _ _ _ _ (by first | with_reducible exact H1.out)).mono ?_; rintro e w' ⟨rfl, rfl⟩)
    go_ret
    exact ⟨rfl, R0.out.out.2⟩
  · obtain rfl : 1 = E := hE
    have H1 := Lib.hid h1
    have H2 := Lib.hid h2
    clear h1 h2
    go_enter Try.func16, Try.ntmps16
    go_upto_region 1 with fail
    rw [HW.out, HP.out]
    clear HW HP
    go_wp2_with (go_at_call 31; refine (kWithin_is _ _ _ _ _ (by first | with_reducible exact H1.out | with_reducible exact H2.out)).mono ?_; rintro e w' ⟨rfl, rfl⟩)
    go_ret
    exact ⟨rfl, R0.out.out.2⟩
  · obtain rfl : 1 = E := hE
    have H1 := Lib.hid h1
    have H2 := Lib.hid h2
    have H3 := Lib.hid h3
    clear h1 h2 h3
    go_enter Try.func16, Try.ntmps16
    go_upto_region 1 with fail
    rw [HW.out, HP.out]
    clear HW HP
    go_wp2_with (go_at_call 31; refine (kWithin_is _ _ _ _ _ (by first | with_reducible exact H1.out | with_reducible exact H2.out | with_reducible exact H3.out)).mono ?_; rintro e w' ⟨rfl, rfl⟩)
    go_ret
    exact ⟨rfl, R0.out.out.2⟩
  · have H1 := Lib.hid h1
    have H2 := Lib.hid h2
    have H3 := Lib.hid h3
    have H4 := Lib.hid h4
    clear h1 h2 h3 h4
    cases X with
    | true =>
      obtain rfl : 0 = E := hE
      go_enter Try.func16, Try.ntmps16
      go_upto_region 1 with fail
      rw [HW.out, HP.out]
      clear HW HP
      go_wp2_with (go_at_call 31; refine (kWithin_is _ _ _ _ _ (by first | with_reducible exact H1.out | with_reducible exact H2.out | with_reducible exact H3.out | with_reducible exact H4.out)).mono ?_; rintro e w' ⟨rfl, rfl⟩)
      go_ret
      exact ⟨rfl, R0.out.out.2⟩
    | false =>
      obtain rfl : 1 = E := hE
      go_enter Try.func16, Try.ntmps16
      go_upto_region 1 with fail
      rw [HW.out, HP.out]
      clear HW HP
      go_wp2_with (go_at_call 31; refine (kWithin_is _ _ _ _ _ (by first | with_reducible exact H1.out | with_reducible exact H2.out | with_reducible exact H3.out | with_reducible exact H4.out)).mono ?_; rintro e w' ⟨rfl, rfl⟩)
      go_ret
      exact ⟨rfl, R0.out.out.2⟩
end Go.Proofs.Ytgadgmcabjnjjaa.Kpd
/- Package keep: whether segments are in a row. -/
namespace Go.Proofs.Ytgadgmcabjnjjaa.Kpd
open Go.RowKit Go.Lib Rcd

def rowE (l : List Sp) : Int := if rowB l then 0 else 1
theorem rowE_no {l : List Sp} (h : rowB l = false) : rowE l = 1 := by unfold rowE; rw [h]; rfl
theorem rowE_yes {l : List Sp} (h : rowB l = true) : rowE l = 0 := by unfold rowE; rw [h]; rfl
/-- So many of the first ones may stand where they do. -/
def RowTo (l : List Sp) (k : Nat) : Prop := ∀ j (h : j < l.length), j < k → okB (endOf (l.take j)) l[j] = true
theorem end_le {l : List Sp} {k : Nat} (hk : k ≤ l.length) (h : RowTo l k) : 0 ≤ (endOf (l.take k)).r ∧ (endOf (l.take k)).r ≤ 200 := by
  refine ⟨by rw [end_r]; omega, ?_⟩
  cases k with
  | zero => show (0 : Int) ≤ 200; decide
  | succ j =>
    have h1 := ok_iff.1 (h j (by omega) (by omega))
    rw [end_next (by omega)]
    unfold En.next
    split
    · have := h1.2.2.1
      dsimp only
      omega
    · exact h1.2.2.1
/-- A new box, and a value put into it. -/
theorem any_box {w w1 : World} (hb : Below w.heap.size w w1) (T : TypeId) (zs cs : Array Value) : ∃ g W4, w1.heap.size = g ∧ w1.alloc (.cells zs T) = W4 ∧ Blk W4 g zs ∧ RBox w g cs (W4.setRow g cs) ∧ Below w1.heap.size w1 (W4.setRow g cs) := by
  have hbn := Blk.new w1 T zs
  have hbl : Below w.heap.size w (w1.alloc (.cells zs T)) := hb.alloc hb.size _
  exact ⟨_, _, rfl, rfl, hbn, .mk (hbn.row cs) (below_row hbl hb.size cs), below_row ((Below.refl _ _).alloc (Nat.le_refl _) _) (Nat.le_refl _) cs⟩

set_option maxRecDepth 100000 in
set_option maxHeartbeats 8000000 in
/-- keep.Row. -/
theorem Row_is (l : List Sp) (N : Nat) (A : Option Addr) (c B : Nat) (E : Int) (w : World) (hN : l.length = N) (hm : N ≤ 9223372036854775807) (hB : B ≤ w.heap.size) (h : SegsAt w B A l) (hE : rowE l = E) :
    Calls Try.prog 14 #[.slice A N c] w fun e w' => e = .returned (.int .i64 E) ∧ Below w.heap.size w w' := by
  have H := Lib.hid (h.mono hB)
  have HE := Lib.hid hE
  have HN := Lib.hid hN
  clear h hE hN hB
  by_cases hl : 1 ≤ (N : Int) ∧ (N : Int) ≤ 201
  · have HW1 := Lib.hid (fun W => kWithin_is (N : Int) 1 201 true W (decide_eq_true hl))
    have hl2 : N ≤ 201 := by omega
    have hl1 : 1 ≤ N := by omega
    clear hl
    have R0 := Lib.hid (RBox.new w 61 (earr 0 0 0))
    obtain ⟨p, hp⟩ : ∃ p, w.heap.size = p := ⟨_, rfl⟩
    obtain ⟨W0, hW⟩ : ∃ W0, w.alloc (.cells (earr 0 0 0) 61) = W0 := ⟨_, rfl⟩
    rw [hW, hp] at R0
    unfold earr at hW
    have HW := Lib.hid hW
    have HP := Lib.hid hp
    clear hW hp
    go_enter Try.func14, Try.ntmps14
    go_wp2_with (go_at_call 31; refine (HW1.out _).mono ?_; rintro e w' ⟨rfl, rfl⟩)
    rw [HW.out, HP.out]
    clear HW HW1
    go_loopw [14] (fun i wr => ∃ k : Nat, k ≤ N ∧ i = .int .i64 (k : Int) ∧ RBox w p (earr (endOf (l.take k)).r (endOf (l.take k)).b (endOf (l.take k)).t) wr ∧ RowTo l k) (fun i _ => N - (RowKit.intOf i).toNat)
    case atStart => exact ⟨0, Nat.zero_le _, rfl, R0.out, fun j _ h => absurd h (Nat.not_lt_zero _)⟩
    case round =>
      obtain ⟨k, hk, rfl, hbx, hto⟩ := hrel
      have HT := Lib.hid hto
      have R := Lib.hid hbx
      have hel := end_le (by rw [HN.out]; exact hk) hto
      clear hbx hto R0
      by_cases hlt : k < N
      · have hlr : k < l.length := by rw [HN.out]; exact hlt
        obtain ⟨b0, o0, rfl, hb0, hc⟩ := (H.out.below R.out.out.2).some_ (by omega)
        obtain ⟨A1, c1, hsg⟩ := hc k hlr
        obtain ⟨e', X, hwi, hok, hnx⟩ := with_ex (endOf (l.take k)) l[k]
        have HYES : Hid (X = true → RowTo l (k + 1) ∧ endOf (l.take (k + 1)) = e') := by
          show _ → _
          intro hx
          refine ⟨fun j h hj => ?_, by rw [end_next hlr, hnx hx]⟩
          by_cases hjk : j < k
          · exact HT.out j h hjk
          · obtain rfl : j = k := by omega
            exact hok.trans hx
        have HNO : Hid (X = false → E = 1) := by
          show _ → _
          intro hx
          rw [← HE.out]
          refine rowE_no ?_
          rw [← Bool.not_eq_true]
          intro hr
          have := (row_iff.1 hr).2 k hlr
          rw [hok, hx] at this
          cases this
        clear hc hok hnx HT
        generalize endOf (l.take k) = e0 at R hwi hel
        generalize l[k] = s at hsg hwi
        obtain ⟨s0, s1, hA, hcap, hlim⟩ := hsg
        obtain ⟨M, hM⟩ : ∃ M, s.rs.length = M := ⟨_, rfl⟩
        rw [hM] at s1 hcap hlim
        have HWI := Lib.hid (fun W (hb : Below wr.heap.size wr W) => with_is e0 s M A1 c1 w.heap.size e' X W hM (by omega) hcap ⟨hel.1, by omega⟩ (Nat.le_trans R.out.out.2.size hb.size) (hA.below (hb.mono R.out.out.2.size)) hwi)
        unfold eagg at HWI
        obtain ⟨er, eb, et⟩ := e0
        obtain ⟨er', eb', et'⟩ := e'
        obtain ⟨sb, srs⟩ := s
        dsimp only at s0 s1 hA R HWI HYES
        unfold earr at R HWI
        have hld := load_seg_at s0 s1
        obtain ⟨g9, W4, hg9, hW4, hbn, hbx, hbw⟩ := any_box R.out.out.2 48 szero (sarr sb A1 M c1)
        have HBN := Lib.hid hbn
        have HBX := Lib.hid hbx
        have HBW := Lib.hid hbw
        have R5 := Lib.hid (R.out.below hbw)
        unfold szero at hW4
        unfold sarr at HBX HBW R5
        have HW4 := Lib.hid hW4
        clear hbn hbx hbw hW4 hM hA hcap hlim hel hwi R hlr
        have e1 : (k : Int) < (N : Int) := by omega
        go_upto_region 7 with (first | (refine wpList_load_any (by rfl) 48 (.tmp 16) rfl b0 (o0 + k * 2) rfl _ hld ?_; simp only [Act.put]) | (rw [HW4.out]; refine wpList_store_whole rfl 48 (.tmp 5) (.tmp 17) rfl g9 _ rfl rfl szero HBN.out info_seg rfl (by simp [Value.oneCell']) ?_; simp only [Act.put]))
        clear HW4 HBN s0 s1 hg9 hld
        generalize World.setRow _ _ _ = w5 at HBX HBW R5 ⊢
        have hld := HBX.out.loadS rfl
        have hle := load_end R5.out.out.1 rfl
        go_wp2_with (first | (refine wpList_load_any (by rfl) 61 (.tmp 3) rfl p 0 rfl _ hle ?_; simp only [Act.put]) | (refine wpList_load_any (by rfl) 48 (.tmp 5) rfl g9 0 rfl _ hld ?_; simp only [Act.put]))
        refine (HWI.out _ HBW.out).mono ?_
        rintro e w6 ⟨rfl, hb6⟩
        have R6 := Lib.hid (R5.out.below hb6)
        obtain ⟨g8, W8, hg8, hW8, hbn, hbx, hbw⟩ := any_box R6.out.out.2 61 (earr 0 0 0) (earr er' eb' et')
        have HBN := Lib.hid hbn
        have HBX8 := Lib.hid hbx
        have R8 := Lib.hid (R6.out.below hbw)
        unfold earr at hW8 HBX8 R8
        have HW8 := Lib.hid hW8
        clear HBX HBW R5 hb6 hld hle HWI hbn hbx hbw hW8 R6
        go_upto_region 8 with (rw [HW8.out]; refine wpList_store_whole rfl 61 (.tmp 6) (.tmp 22) rfl g8 _ rfl rfl _ HBN.out info_end rfl (by simp [Value.oneCell']) ?_; simp only [Act.put])
        clear HW8 HBN hg8
        generalize World.setRow _ _ _ = w9 at HBX8 R8 ⊢
        cases X with
        | true =>
          obtain ⟨y1, y2⟩ := HYES.out rfl
          have hle := load_end HBX8.out.out.1 rfl
          have HB9 := Lib.hid R8.out.out.1
          have R9 := Lib.hid (R8.out.row (Nat.le_of_eq HP.out) #[.int .i64 er', .int .i64 eb', .int .i64 et'])
          clear R8 HBX8
          have HY := Lib.hid (And.intro y1 y2)
          clear y1 y2 HYES HNO
          go_wp2_with (first | (refine wpList_load_any (by rfl) 61 (.tmp 6) rfl g8 0 rfl _ hle ?_; simp only [Act.put]) | (refine wpList_store_whole rfl 61 (.tmp 3) (.tmp 26) rfl p _ rfl rfl _ HB9.out info_end rfl (by simp [Value.oneCell']) ?_; simp only [Act.put]))
          go_roundw
          case rel => exact ⟨k + 1, hlt, by go_num, by rw [HY.out.2]; exact R9.out, HY.out.1⟩
          case measure => simp [RowKit.intOf]; omega
        | false =>
          obtain rfl : E = 1 := HNO.out rfl
          go_wp2_with fail
          go_ret
          exact ⟨rfl, R8.out.out.2⟩
      · obtain rfl : k = N := by omega
        obtain rfl : E = 0 := by
          rw [← HE.out]
          exact rowE_yes (row_iff.2 ⟨by rw [HN.out]; exact ⟨hl1, hl2⟩, fun j hj => HT.out j hj (by rw [← HN.out]; exact hj)⟩)
        clear hel
        go_wp2_with fail
        go_ret
        exact ⟨rfl, R.out.out.2⟩
  · have HW1 := Lib.hid (fun W => kWithin_is (N : Int) 1 201 false W (decide_eq_false hl))
    obtain rfl : E = 1 := by
      rw [← HE.out]
      refine rowE_no ?_
      unfold rowB
      rw [decide_eq_false (by rw [HN.out]; omega)]
      rfl
    clear hl
    go_enter Try.func14, Try.ntmps14
    go_wp2_with (go_at_call 31; refine (HW1.out _).mono ?_; rintro e w' ⟨rfl, rfl⟩)
    go_ret
    exact ⟨rfl, Below.refl _ _⟩
end Go.Proofs.Ytgadgmcabjnjjaa.Kpd
/- Package keep: what is too much, what is too old. -/
namespace Go.Proofs.Ytgadgmcabjnjjaa.Kpd
open Go.RowKit Go.Lib Rcd

theorem much_ways (r : Ru) (z : Nat) (h : -1 ≤ r.by_) : (r.by_ = -1 ∧ muchB r z = false) ∨ (0 ≤ r.by_ ∧ r.by_ < (z : Int) ∧ muchB r z = true) ∨ (0 ≤ r.by_ ∧ ¬ r.by_ < (z : Int) ∧ muchB r z = false) := by
  unfold muchB
  by_cases c : 0 ≤ r.by_
  · by_cases d : r.by_ < (z : Int)
    · exact .inr (.inl ⟨c, d, by rw [decide_eq_true c, decide_eq_true d]; rfl⟩)
    · exact .inr (.inr ⟨c, d, by rw [decide_eq_false d, Bool.and_false]⟩)
  · exact .inl ⟨by omega, by rw [decide_eq_false c]; rfl⟩

set_option maxRecDepth 100000 in
set_option maxHeartbeats 2000000 in
/-- keep.isTooMuch. -/
theorem isTooMuch_is (r : Ru) (z : Nat) (X : Bool) (w : World) (hr : -1 ≤ r.by_) (hX : muchB r z = X) :
    Calls Try.prog 42 #[.int .i64 (z : Int), ruagg r] w fun e w' => e = .returned (.bool X) ∧ Below w.heap.size w w' := by
  have hway := much_ways r z hr
  rw [hX] at hway
  unfold ruagg
  obtain ⟨sb, by_, ag, co, gr⟩ := r
  dsimp only at hway ⊢
  have R0 := Lib.hid (RBox.new w 25 (ruarr sb by_ ag co gr))
  obtain ⟨p, hp⟩ : ∃ p, w.heap.size = p := ⟨_, rfl⟩
  obtain ⟨W0, hW⟩ : ∃ W0, w.alloc (.cells (ruarr sb by_ ag co gr) 25) = W0 := ⟨_, rfl⟩
  rw [hW, hp] at R0
  unfold ruarr at R0 hW ⊢
  have HW := Lib.hid hW
  have HP := Lib.hid hp
  clear hW hp hX hr
  rcases hway with ⟨rfl, rfl⟩ | ⟨h1, h2, rfl⟩ | ⟨h1, h2, rfl⟩
  · have d1 : W0.cell? ⟨p, 1, none⟩ = some (.int .i64 (-1)) := R0.out.cell 1
    go_enter Try.func42, Try.ntmps42
    go_upto_region 1 with fail
    rw [HW.out, HP.out]
    clear HW HP
    go_wp2_with fail
    go_ret
    exact ⟨rfl, R0.out.out.2⟩
  · have d1 : W0.cell? ⟨p, 1, none⟩ = some (.int .i64 by_) := R0.out.cell 1
    have e1 : (by_ != -1) = true := by rw [bne_iff_ne]; omega
    have e2 : (by_ == -1) = false := by rw [beq_eq_false_iff_ne]; omega
    go_enter Try.func42, Try.ntmps42
    go_upto_region 1 with fail
    rw [HW.out, HP.out]
    clear HW HP
    go_wp2_with fail
    go_ret
    exact ⟨rfl, R0.out.out.2⟩
  · have d1 : W0.cell? ⟨p, 1, none⟩ = some (.int .i64 by_) := R0.out.cell 1
    have e1 : (by_ != -1) = true := by rw [bne_iff_ne]; omega
    have e2 : (by_ == -1) = false := by rw [beq_eq_false_iff_ne]; omega
    go_enter Try.func42, Try.ntmps42
    go_upto_region 1 with fail
    rw [HW.out, HP.out]
    clear HW HP
    go_wp2_with fail
    go_ret
    exact ⟨rfl, R0.out.out.2⟩

theorem old_ways (r : Ru) (now : Int) (rs : List Rc) (h : -1 ≤ r.ag) : (r.ag = -1 ∧ oldB r now rs = false) ∨ (0 ≤ r.ag ∧ rs = [] ∧ oldB r now rs = true) ∨ (0 ≤ r.ag ∧ ∃ n, ∃ h : n + 1 = rs.length, oldB r now rs = decide ((rs[n]'(by omega)).t + r.ag < now)) := by
  unfold oldB
  by_cases c : 0 ≤ r.ag
  · rw [decide_eq_true c, Bool.true_and]
    cases hr : rs with
    | nil => exact .inr (.inl ⟨c, rfl, rfl⟩)
    | cons x l =>
      refine .inr (.inr ⟨c, l.length, rfl, ?_⟩)
      rw [last_all (rs := x :: l) (n := l.length) rfl]
  · exact .inl ⟨by omega, by rw [decide_eq_false c]; rfl⟩

set_option maxRecDepth 100000 in
set_option maxHeartbeats 4000000 in
/-- keep.isTooOld. -/
theorem isTooOld_is (r : Ru) (now b : Int) (rs : List Rc) (N : Nat) (A : Option Addr) (c B : Nat) (X : Bool) (w : World) (hN : rs.length = N) (hm : N ≤ 9223372036854775807) (hr : -1 ≤ r.ag ∧ r.ag ≤ 1073741824) (ht : ∀ a ∈ rs, 0 ≤ a.t ∧ a.t ≤ 1099511627776) (hB : B ≤ w.heap.size) (h : RecsAt w B A rs) (hX : oldB r now rs = X) :
    Calls Try.prog 43 #[.agg #[.int .i64 b, .slice A N c], ruagg r, .int .i64 now] w fun e w' => e = .returned (.bool X) ∧ Below w.heap.size w w' := by
  have hway := old_ways r now rs hr.1
  rw [hX] at hway
  unfold ruagg
  obtain ⟨sb, by_, ag, co, gr⟩ := r
  dsimp only at hway hr ⊢
  have hD := Duo.new w 48 25 (sarr b A N c) (ruarr sb by_ ag co gr)
  have H := Lib.hid h
  obtain ⟨p, hp⟩ : ∃ p, w.heap.size = p := ⟨_, rfl⟩
  obtain ⟨W0, hW⟩ : ∃ W0, (w.alloc (.cells (sarr b A N c) 48)).alloc (.cells (ruarr sb by_ ag co gr) 25) = W0 := ⟨_, rfl⟩
  rw [hW, hp] at hD
  unfold sarr ruarr at hD hW
  unfold ruarr
  have D0 := Lib.hid hD
  have HW := Lib.hid hW
  have HP := Lib.hid hp
  clear hD hW hp h hX
  have n2 : (N : Int) < 9223372036854775808 := by omega
  rcases hway with ⟨rfl, rfl⟩ | ⟨h1, rfl, rfl⟩ | ⟨h1, n, hn, hx⟩
  · have d2 : W0.cell? ⟨p + 1, 2, none⟩ = some (.int .i64 (-1)) := D0.out.cell2 2
    clear ht hr
    go_enter Try.func43, Try.ntmps43
    go_upto_region 1 with fail
    rw [HW.out, HP.out]
    clear HW HP
    go_wp2_with fail
    go_ret
    exact ⟨rfl, D0.out.bel⟩
  · obtain rfl : N = 0 := by rw [← hN]; rfl
    have d2 : W0.cell? ⟨p + 1, 2, none⟩ = some (.int .i64 ag) := D0.out.cell2 2
    have d1 : W0.cell? ⟨p, 1, none⟩ = some (.slice A 0 c) := D0.out.cell1 1
    have e2 : (ag == -1) = false := by rw [beq_eq_false_iff_ne]; omega
    clear ht
    go_enter Try.func43, Try.ntmps43
    go_upto_region 1 with fail
    rw [HW.out, HP.out]
    clear HW HP
    go_wp2_with fail
    go_quiet (fail)
    go_wp2_with fail
    go_ret
    exact ⟨rfl, below_drewN D0.out.bel _⟩
  · obtain ⟨b0, o0, rfl, hb0, hc⟩ := H.out.some_ (by omega)
    have hr1 := (hc n (by omega)).keep (w' := W0) (fun i => D0.out.bel.cell (p := ⟨b0, i, none⟩) (by show b0 < _; omega))
    have ht1 := ht _ (List.getElem_mem (show n < rs.length by omega))
    have HX := Lib.hid hx
    have d2 : W0.cell? ⟨p + 1, 2, none⟩ = some (.int .i64 ag) := D0.out.cell2 2
    have d1 : W0.cell? ⟨p, 1, none⟩ = some (.slice (some ⟨b0, o0, none⟩) N c) := D0.out.cell1 1
    have e2 : (ag == -1) = false := by rw [beq_eq_false_iff_ne]; omega
    have e3 : ((N : Int) == 0) = false := by rw [beq_eq_false_iff_ne]; omega
    have e4 : (N == 0) = false := by rw [beq_eq_false_iff_ne]; omega
    have e5 : (N : Int) - 1 = (n : Int) := by omega
    have e6 : (n : Int) < (N : Int) := by omega
    clear ht hc hx H
    generalize rs[n]'(by omega) = a at hr1 HX ht1
    obtain ⟨xo, xt, xk, xb, xq, xg⟩ := a
    obtain ⟨_, c1, _, _, _, _⟩ := hr1
    dsimp only at c1 HX ht1
    obtain ⟨t1, t2⟩ := ht1
    obtain ⟨a1, a2⟩ := hr
    have w1 : IntKind.i64.wrap ((N : Int) - 1) = (n : Int) := by rw [e5]; exact IntWalk.i64_in _ ⟨by omega, by omega⟩
    have w2 : IntKind.i64.wrap (xt + ag) = xt + ag := IntWalk.i64_in _ ⟨by omega, by omega⟩
    clear hN hn hb0
    go_enter Try.func43, Try.ntmps43
    go_upto_region 1 with fail
    rw [HW.out, HP.out]
    clear HW HP
    go_wp2_with fail
    go_quiet (fail)
    go_wp2_with fail
    go_ret
    exact ⟨ret_bool HX.out.symm, below_drewN D0.out.bel _⟩
end Go.Proofs.Ytgadgmcabjnjjaa.Kpd
/- Package rec: how many bytes a record has. -/
namespace Go.Proofs.Ytgadgmcabjnjjaa
open Go.RowKit Go.Lib Rcd

set_option maxRecDepth 100000 in
set_option maxHeartbeats 2000000 in
theorem Size_parts (o t : Int) (k b : ByteArray) (q : Int) (g : Bool) (N : Nat) (E : Int) (w : World) (hE : mayE ⟨o, t, k.data.toList, b.data.toList, q, g⟩ = E) (hN : (E = 0 ∧ k.size ≤ 1024 ∧ b.size ≤ 1024 ∧ N = 25 + k.size + b.size) ∨ (¬ E = 0 ∧ N = 0)) :
    Calls Try.prog 51 #[.agg (rarr o t k b q g)] w fun e w' => e = .returned (.tuple #[.int .i64 (N : Int), .int .i64 E]) ∧ Below w.heap.size w w' := by
  have HC := Lib.hid (fun W => Check_parts o t k b q g E W hE)
  have R0 := Lib.hid (RBox.new w 51 (rarr o t k b q g))
  obtain ⟨W0, hW⟩ : ∃ W0, w.alloc (.cells (rarr o t k b q g) 51) = W0 := ⟨_, rfl⟩
  rw [hW] at R0
  unfold rarr at hW R0 HC ⊢
  have HW := Lib.hid hW
  clear hW hE
  rcases hN with ⟨rfl, m1, m2, rfl⟩ | ⟨h0, rfl⟩
  · go_enter Try.func51, Try.ntmps51
    go_upto_region 1 with fail
    rw [HW.out]
    clear HW
    generalize Value.agg _ = v1
    obtain ⟨p, hp⟩ : ∃ p, w.heap.size = p := ⟨_, rfl⟩
    rw [hp] at R0 ⊢
    clear hp
    have hld := R0.out.load rfl
    go_wp2_with (refine wpList_load_any (by rfl) 51 (.tmp 1) rfl p 0 rfl _ hld ?_; simp only [Act.put])
    refine (HC.out _).mono ?_
    rintro e w1 ⟨rfl, hb1⟩
    have R1 := Lib.hid (R0.out.below hb1)
    have d2 : w1.cell? ⟨p, 2, none⟩ = some (.string k) := R1.out.cell 2
    have d3 : w1.cell? ⟨p, 3, none⟩ = some (.string b) := R1.out.cell 3
    clear R0 hb1 hld HC
    go_wp2_with fail
    go_ret2
    refine ⟨?_, R1.out.out.2⟩
    simp
  · have h0b : (E == 0) = false := by rw [beq_eq_false_iff_ne]; exact h0
    have h0c : (E != 0) = true := by rw [bne_iff_ne]; exact h0
    rw [show ((0 : Nat) : Int) = 0 from rfl]
    go_enter Try.func51, Try.ntmps51
    go_upto_region 1 with fail
    rw [HW.out]
    clear HW
    generalize Value.agg _ = v1
    obtain ⟨p, hp⟩ : ∃ p, w.heap.size = p := ⟨_, rfl⟩
    rw [hp] at R0 ⊢
    clear hp
    have hld := R0.out.load rfl
    go_wp2_with (refine wpList_load_any (by rfl) 51 (.tmp 1) rfl p 0 rfl _ hld ?_; simp only [Act.put])
    refine (HC.out _).mono ?_
    rintro e w1 ⟨rfl, hb1⟩
    have R1 := Lib.hid (R0.out.below hb1)
    clear R0 hb1 hld HC
    go_wp2_with fail
    go_ret2
    exact ⟨rfl, R1.out.out.2⟩
end Go.Proofs.Ytgadgmcabjnjjaa
/- How many bytes a record that may be has. -/
namespace Go.Proofs.Ytgadgmcabjnjjaa
open Go.RowKit Go.Lib Rcd

theorem RecSize_good (r : Rc) (n : Nat) (w : World) (h : mayB r = true) (hn : (recL r).length = n) :
    Calls Try.prog 51 #[ragg r] w fun e w' => e = .returned (.tuple #[.int .i64 (n : Int), .int .i64 0]) ∧ Below w.heap.size w w' := by
  obtain ⟨_, _, _, _, h5, h6, _⟩ := (may_iff _).1 h
  subst hn
  have hE : mayE r = 0 := by unfold mayE; rw [h]; rfl
  exact Size_parts r.o r.t (str r.k) (str r.b) r.q r.g (recL r).length 0 w (by rw [str_data, str_data]; exact hE) (.inl ⟨rfl, by rw [str_size]; exact h5, by rw [str_size]; exact h6, by rw [str_size, str_size, rec_len]⟩)
end Go.Proofs.Ytgadgmcabjnjjaa
/- Package seg: how many bytes the records of a segment have. -/
namespace Go.Proofs.Ytgadgmcabjnjjaa
open Go.RowKit Go.Lib Rcd

set_option maxRecDepth 100000 in
set_option maxHeartbeats 8000000 in
/-- seg.Size. -/
theorem SegSize_is (b : Int) (rs : List Rc) (N : Nat) (A : Option Addr) (c B : Nat) (n : Nat) (E : Int) (w : World) (hN : rs.length = N) (hm : N ≤ 9223372036854775807) (hcap : N ≤ c) (hB : B ≤ w.heap.size) (h : RecsAt w B A rs) (hE : segE b rs = E)
    (hn : (E = 0 ∧ (allL rs).length = n) ∨ (¬ E = 0 ∧ n = 0)) :
    Calls Try.prog 47 #[.agg #[.int .i64 b, .slice A N c]] w fun e w' => e = .returned (.tuple #[.int .i64 (n : Int), .int .i64 E]) ∧ Below w.heap.size w w' := by
  have R0 := Lib.hid (RBox.new w 48 (sarr b A N c))
  have HC := Lib.hid (fun W (hb : Below w.heap.size w W) => SegCheck_is b rs N A c B E W hN hm hcap (Nat.le_trans hB hb.size) (h.below (hb.mono hB)) hE)
  obtain ⟨p, hp⟩ : ∃ p, w.heap.size = p := ⟨_, rfl⟩
  obtain ⟨W0, hW⟩ : ∃ W0, w.alloc (.cells (sarr b A N c) 48) = W0 := ⟨_, rfl⟩
  rw [hW, hp] at R0
  unfold sarr at R0 hW
  have HW := Lib.hid hW
  have HP := Lib.hid hp
  have H := Lib.hid (h.mono hB)
  have HNN := Lib.hid hN
  clear hW hp h hN hB
  rcases hn with ⟨rfl, hn⟩ | ⟨h0, rfl⟩
  · have hseg := segE_zero hE
    have HS := Lib.hid hseg
    have HZ := Lib.hid (seg_size hseg)
    have hle := seg_len hseg
    rw [HNN.out] at hle
    have HN := Lib.hid hn
    clear hE hseg hn
    go_enter Try.func47, Try.ntmps47
    go_upto_region 1 with fail
    rw [HW.out, HP.out]
    clear HW
    have hld := R0.out.loadS rfl
    go_wp2_with (refine wpList_load_any (by rfl) 48 (.tmp 1) rfl p 0 rfl _ hld ?_; simp only [Act.put])
    refine (HC.out _ R0.out.out.2).mono ?_
    rintro e w1 ⟨rfl, hb1⟩
    have R1 := Lib.hid (R0.out.below hb1)
    clear R0 hb1 hld HC
    have d1 : w1.cell? ⟨p, 1, none⟩ = some (.slice A N c) := R1.out.cell 1
    go_wp2_with fail
    clear d1
    go_loopw [5, 18] (fun v i wr => ∃ k a : Nat, k ≤ N ∧ (allL (rs.take k)).length = a ∧ v = .int .i64 (a : Int) ∧ i = .int .i64 (k : Int) ∧ RBox w p #[.int .i64 b, .slice A N c] wr) (fun _ i _ => N - (RowKit.intOf i).toNat)
    case atStart => exact ⟨0, 0, Nat.zero_le _, rfl, rfl, rfl, R1.out⟩
    case round =>
      obtain ⟨k, a, hk, ha, rfl, rfl, hbx⟩ := hrel
      have HA := Lib.hid ha
      have R := Lib.hid hbx
      clear hbx R1 ha
      by_cases hlt : k < N
      · have hlr : k < rs.length := by rw [HNN.out]; exact hlt
        obtain ⟨b0, o0, rfl, hb0, hc⟩ := (H.out.below R.out.out.2).some_ (by omega)
        have hr := hc k hlr
        have hmay := seg_may HS.out _ (List.getElem_mem hlr)
        obtain ⟨z, hz⟩ : ∃ z, (recL rs[k]).length = z := ⟨_, rfl⟩
        have HRS := Lib.hid (fun W => RecSize_good rs[k] z W hmay hz)
        have HA2 : Hid ((allL (rs.take (k + 1))).length = a + z) := by show _ = _; rw [all_next hlr, HA.out, hz]
        have hsum : a + z ≤ 420000 := by
          rw [← HA2.out]
          exact Nat.le_trans (all_take_le _ _) HZ.out
        clear HA hc hmay hz
        unfold ragg at HRS
        generalize rs[k] = r at hr HRS
        obtain ⟨o, t, key, bod, q, g⟩ := r
        obtain ⟨c0, c1, c2, c3, c4, c5⟩ := hr
        dsimp only at c0 c1 c2 c3 c4 c5 HRS
        generalize str key = ks at c2 HRS
        generalize str bod = bs at c3 HRS
        have e1 : (k : Int) < (N : Int) := by omega
        have hpw : w.heap.size ≤ p := Nat.le_of_eq HP.out
        have hD := Duo.more R.out hpw 51 zcells
        obtain ⟨g9, hg9⟩ : ∃ g9, wr.heap.size = g9 := ⟨_, rfl⟩
        obtain ⟨W4, hW4⟩ : ∃ W4, wr.alloc (.cells zcells 51) = W4 := ⟨_, rfl⟩
        rw [hg9, hW4] at hD
        have HBN := Lib.hid hD.out.2.1
        have D5 := Lib.hid (hD.row2 (rarr o t ks bs q g))
        unfold zcells at hW4
        have HW4 := Lib.hid hW4
        clear hD hW4 hlr R
        unfold rarr at D5 HRS
        go_upto_region 8 with (rw [HW4.out]; refine wpList_store_whole rfl 51 (.tmp 7) (.tmp 21) rfl g9 _ rfl rfl zcells HBN.out info_rec rfl (by simp [Value.oneCell']) ?_; simp only [Act.put])
        clear HW4 HBN c0 c1 c2 c3 c4 c5 hg9
        generalize World.setRow _ _ _ = w5 at D5 ⊢
        have hld := D5.out.box2.load rfl
        go_wp2_with (refine wpList_load_any (by rfl) 51 (.tmp 7) rfl g9 0 rfl _ hld ?_; simp only [Act.put])
        refine (HRS.out _).mono ?_
        rintro e w6 ⟨rfl, hb6⟩
        have R6 := Lib.hid (D5.out.box1.below hb6)
        clear D5 hb6 hld HRS
        have e2 : (a : Int) + (z : Int) ≤ 420000 := by omega
        go_wp2_with fail
        go_roundw
        case rel => exact ⟨k + 1, a + z, hlt, HA2.out, by go_num, by go_num, R6.out⟩
        case measure => simp [RowKit.intOf]; omega
      · obtain rfl : k = N := by omega
        obtain rfl : a = n := by
          rw [← HA.out, ← HN.out, List.take_of_length_le (by rw [HNN.out]; exact Nat.le_refl _)]
        go_wp2_with fail
        go_ret2
        exact ⟨rfl, R.out.out.2⟩
  · have h0b : (E == 0) = false := by rw [beq_eq_false_iff_ne]; exact h0
    have h0c : (E != 0) = true := by rw [bne_iff_ne]; exact h0
    rw [show ((0 : Nat) : Int) = 0 from rfl]
    go_enter Try.func47, Try.ntmps47
    go_upto_region 1 with fail
    rw [HW.out, HP.out]
    clear HW
    have hld := R0.out.loadS rfl
    go_wp2_with (refine wpList_load_any (by rfl) 48 (.tmp 1) rfl p 0 rfl _ hld ?_; simp only [Act.put])
    refine (HC.out _ R0.out.out.2).mono ?_
    rintro e w1 ⟨rfl, hb1⟩
    have R1 := Lib.hid (R0.out.below hb1)
    clear R0 hb1 hld HC
    go_wp2_with fail
    go_ret2
    exact ⟨rfl, R1.out.out.2⟩
end Go.Proofs.Ytgadgmcabjnjjaa
/- Package keep: how many bytes the records of segments have together. -/
namespace Go.Proofs.Ytgadgmcabjnjjaa.Kpd
open Go.RowKit Go.Lib Rcd

set_option maxRecDepth 100000 in
set_option maxHeartbeats 8000000 in
/-- keep.sizeOf, of segments that may be. -/
theorem sizeOf_is (l : List Sp) (N : Nat) (A : Option Addr) (c B n : Nat) (w : World) (hN : l.length = N) (hm : N ≤ 1000000) (hB : B ≤ w.heap.size) (h : SegsAt w B A l) (hs : ∀ s ∈ l, segB s.b s.rs = true) (hn : sizeL l = n) :
    Calls Try.prog 41 #[.slice A N c] w fun e w' => e = .returned (.int .i64 (n : Int)) ∧ Below w.heap.size w w' := by
  have H := Lib.hid (h.mono hB)
  have HS := Lib.hid hs
  have HN := Lib.hid hN
  have HZ := Lib.hid hn
  have HL := Lib.hid (show sizeL l ≤ 420000000000 from by have := size_le hs; omega)
  clear h hs hN hn hB
  go_enter Try.func41, Try.ntmps41
  go_wp2_with fail
  go_loopw [3, 10] (fun v i wr => ∃ k a : Nat, k ≤ N ∧ sizeL (l.take k) = a ∧ v = .int .i64 (a : Int) ∧ i = .int .i64 (k : Int) ∧ Below w.heap.size w wr) (fun _ i _ => N - (RowKit.intOf i).toNat)
  case atStart => exact ⟨0, 0, Nat.zero_le _, rfl, rfl, rfl, Below.refl _ _⟩
  case round =>
    obtain ⟨k, a, hk, ha, rfl, rfl, hbl⟩ := hrel
    have HA := Lib.hid ha
    have HB := Lib.hid hbl
    clear hbl ha
    by_cases hlt : k < N
    · have hlr : k < l.length := by rw [HN.out]; exact hlt
      obtain ⟨b0, o0, rfl, hb0, hc⟩ := (H.out.below HB.out).some_ (by omega)
      obtain ⟨A1, c1, hsg⟩ := hc k hlr
      obtain ⟨z, hz⟩ : ∃ z, (allL l[k].rs).length = z := ⟨_, rfl⟩
      have hseg := HS.out _ (List.getElem_mem hlr)
      have HA2 : Hid (sizeL (l.take (k + 1)) = a + z) := by show _ = _; rw [size_next hlr, HA.out, hz]
      have hsum : a + z ≤ 420000000000 := by
        rw [← HA2.out]
        exact Nat.le_trans (size_take_le _ _) HL.out
      clear HA hc
      generalize l[k] = s at hsg hz hseg
      obtain ⟨sb, rs⟩ := s
      obtain ⟨s0, s1, hA, hcap, hlim⟩ := hsg
      dsimp only at s0 s1 hA hcap hlim hz hseg
      obtain ⟨M, hM⟩ : ∃ M, rs.length = M := ⟨_, rfl⟩
      rw [hM] at s1 hcap hlim
      have HSZ := Lib.hid (fun W (hb : Below wr.heap.size wr W) => SegSize_is sb rs M A1 c1 w.heap.size z 0 W hM (by omega) hcap (Nat.le_trans HB.out.size hb.size) (hA.below (hb.mono HB.out.size)) (segE_yes hseg) (.inl ⟨rfl, hz⟩))
      have hld := load_seg_at s0 s1
      obtain ⟨g9, W4, hg9, hW4, hbn, hsb, hbx, hbw⟩ := seg_box HB.out (sarr sb A1 M c1)
      have HBN := Lib.hid hbn
      have HBX := Lib.hid hbx
      have HBW := Lib.hid hbw
      unfold szero at hW4
      unfold sarr at HBX HBW
      have HW4 := Lib.hid hW4
      clear hbn hsb hbx hbw hW4 hlr hseg hz hM hA hcap
      have e1 : (k : Int) < (N : Int) := by omega
      go_upto_region 5 with (first | (refine wpList_load_any (by rfl) 48 (.tmp 12) rfl b0 (o0 + k * 2) rfl _ hld ?_; simp only [Act.put]) | (rw [HW4.out]; refine wpList_store_whole rfl 48 (.tmp 5) (.tmp 13) rfl g9 _ rfl rfl szero HBN.out info_seg rfl (by simp [Value.oneCell']) ?_; simp only [Act.put]))
      clear HW4 HBN s0 s1 hg9 hld
      generalize World.setRow _ _ _ = w5 at HBX HBW ⊢
      have hld := HBX.out.loadS rfl
      go_wp2_with (refine wpList_load_any (by rfl) 48 (.tmp 5) rfl g9 0 rfl _ hld ?_; simp only [Act.put])
      refine (HSZ.out _ HBW.out).mono ?_
      rintro e w6 ⟨rfl, hb6⟩
      have HB6 := Lib.hid (bel_step HBX.out.out.2 hb6)
      clear HBX HBW hb6 hld HSZ HB
      have e2 : (a : Int) + (z : Int) ≤ 420000000000 := by omega
      go_wp2_with fail
      go_roundw
      case rel => exact ⟨k + 1, a + z, hlt, HA2.out, by go_num, by go_num, HB6.out⟩
      case measure => simp [RowKit.intOf]; omega
    · obtain rfl : k = N := by omega
      obtain rfl : a = n := by
        rw [← HA.out, ← HZ.out, List.take_of_length_le (by rw [HN.out]; exact Nat.le_refl _)]
      go_wp2_with fail
      go_ret
      exact ⟨rfl, HB.out⟩
end Go.Proofs.Ytgadgmcabjnjjaa.Kpd
/- Package keep: how many of the first segments go. -/
namespace Go.Proofs.Ytgadgmcabjnjjaa.Kpd
open Go.RowKit Go.Lib Rcd

/-- What keep.old tells. -/
inductive OldV (l : List Sp) (r : Ru) (now : Int) : Value → Prop
  | row (h : rowB l = false) : OldV l r now (.iface 30 (.int .i64 1))
  | rules (h : rowB l = true) (h2 : ruB r = false) : OldV l r now (.iface 30 (.int .i64 1))
  | time (h : rowB l = true) (h2 : ruB r = true) (h3 : decide (0 ≤ now ∧ now ≤ 1099511627776) = false) : OldV l r now (.iface 30 (.int .i64 1))
  | good (m : Nat) (h : rowB l = true) (h2 : ruB r = true) (h3 : decide (0 ≤ now ∧ now ≤ 1099511627776) = true) (h4 : OldIs r now l m) : OldV l r now (.iface 3 (.int .i64 (m : Int)))

theorem closed_at {l : List Sp} {k : Nat} (h : k < (closed l).length) (h2 : k < l.length) : (closed l)[k] = l[k] := by
  unfold closed at h ⊢
  exact List.getElem_take
/-- So many go. -/
def GoTo (r : Ru) (now : Int) (l : List Sp) (k : Nat) : Prop := ∀ j, j < k → goesB r now l j = true

set_option maxRecDepth 100000 in
set_option maxHeartbeats 8000000 in
/-- keep.old. -/
theorem old_is (l : List Sp) (r : Ru) (now : Int) (N : Nat) (A : Option Addr) (c B : Nat) (V : Value) (w : World) (hN : l.length = N) (hm : N ≤ 9223372036854775807) (hcap : N ≤ c) (hB : B ≤ w.heap.size) (h : SegsAt w B A l) (hV : OldV l r now V) :
    Calls Try.prog 27 #[.slice A N c, ruagg r, .int .i64 now] w fun e w' => e = .returned V ∧ Below w.heap.size w w' := by
  have R0 := Lib.hid (RBox.new w 25 (ruarr r.sb r.by_ r.ag r.co r.gr))
  have HRW := Lib.hid (fun E W (hb : Below w.heap.size w W) (hE : rowE l = E) => Row_is l N A c B E W hN hm (Nat.le_trans hB hb.size) (h.below (hb.mono hB)) hE)
  have HRU := Lib.hid (fun E W (hE : ruE r = E) => Rules_is r E W hE)
  unfold ruagg at HRU ⊢
  obtain ⟨p, hp⟩ : ∃ p, w.heap.size = p := ⟨_, rfl⟩
  obtain ⟨W0, hW⟩ : ∃ W0, w.alloc (.cells (ruarr r.sb r.by_ r.ag r.co r.gr) 25) = W0 := ⟨_, rfl⟩
  rw [hW, hp] at R0
  have HH := Lib.hid (h.mono hB)
  have HN := Lib.hid hN
  have HW := Lib.hid hW
  have HP := Lib.hid hp
  clear hW hp h hB hN
  cases hV with
  | row h1 =>
    have HC := Lib.hid (fun W hb => HRW.out 1 W hb (rowE_no h1))
    clear HRW HRU h1 HH HN
    generalize ruarr r.sb r.by_ r.ag r.co r.gr = ra at R0 HW
    go_enter Try.func27, Try.ntmps27
    go_upto_region 1 with fail
    rw [HW.out, HP.out]
    clear HW HP
    go_wp2_with fail
    refine (HC.out _ R0.out.out.2).mono ?_
    rintro e w1 ⟨rfl, hb1⟩
    have R1 := Lib.hid (R0.out.below hb1)
    clear R0 hb1 HC
    go_wp2_with fail
    go_ret
    exact ⟨rfl, R1.out.out.2⟩
  | rules h1 h2 =>
    have HC := Lib.hid (fun W hb => HRW.out 0 W hb (rowE_yes h1))
    have HC2 := Lib.hid (fun W => HRU.out 1 W (by unfold ruE; rw [h2]; rfl))
    clear HRW HRU h1 h2 HH HN
    unfold ruarr at R0 HW HC2 ⊢
    go_enter Try.func27, Try.ntmps27
    go_upto_region 1 with fail
    rw [HW.out, HP.out]
    clear HW HP
    go_wp2_with fail
    refine (HC.out _ R0.out.out.2).mono ?_
    rintro e w1 ⟨rfl, hb1⟩
    have R1 := Lib.hid (R0.out.below hb1)
    clear R0 hb1 HC
    have hld := load_ru R1.out.out.1 rfl
    go_wp2_with (refine wpList_load_any (by rfl) 25 (.tmp 4) rfl p 0 rfl _ hld ?_; simp only [Act.put])
    refine (HC2.out _).mono ?_
    rintro e w2 ⟨rfl, hb2⟩
    have R2 := Lib.hid (R1.out.below hb2)
    clear R1 hb2 hld HC2
    go_wp2_with fail
    go_ret
    exact ⟨rfl, R2.out.out.2⟩
  | time h1 h2 h3 =>
    have HC := Lib.hid (fun W hb => HRW.out 0 W hb (rowE_yes h1))
    have HC2 := Lib.hid (fun W => HRU.out 0 W (by unfold ruE; rw [h2]; rfl))
    have HC3 := Lib.hid (fun W => kWithin_is now 0 1099511627776 false W h3)
    clear HRW HRU h1 h2 h3 HH HN
    unfold ruarr at R0 HW HC2 ⊢
    go_enter Try.func27, Try.ntmps27
    go_upto_region 1 with fail
    rw [HW.out, HP.out]
    clear HW HP
    go_wp2_with fail
    refine (HC.out _ R0.out.out.2).mono ?_
    rintro e w1 ⟨rfl, hb1⟩
    have R1 := Lib.hid (R0.out.below hb1)
    clear R0 hb1 HC
    have hld := load_ru R1.out.out.1 rfl
    go_wp2_with (refine wpList_load_any (by rfl) 25 (.tmp 4) rfl p 0 rfl _ hld ?_; simp only [Act.put])
    refine (HC2.out _).mono ?_
    rintro e w2 ⟨rfl, hb2⟩
    have R2 := Lib.hid (R1.out.below hb2)
    clear R1 hb2 hld HC2
    go_wp2_with (go_at_call 31; refine (HC3.out _).mono ?_; rintro e w' ⟨rfl, rfl⟩)
    go_ret
    exact ⟨rfl, R2.out.out.2⟩
  | good m h1 h2 h3 h4 =>
    have HC := Lib.hid (fun W hb => HRW.out 0 W hb (rowE_yes h1))
    have HC2 := Lib.hid (fun W => HRU.out 0 W (by unfold ruE; rw [h2]; rfl))
    have HC3 := Lib.hid (fun W => kWithin_is now 0 1099511627776 true W h3)
    have hrl := (row_iff.1 h1).1
    rw [HN.out] at hrl
    obtain ⟨hrl1, hrl2⟩ := hrl
    obtain ⟨n, hn⟩ : ∃ n, N = n + 1 := ⟨N - 1, by omega⟩
    have hru := ru_yes h2
    have HSG := Lib.hid (row_segs h1)
    have HO := Lib.hid h4
    have hcl : closed l = l.take n := by unfold closed; rw [HN.out, hn]; rfl
    have hnl : l.length - 1 = n := by rw [HN.out]; omega
    obtain ⟨z0, hz0⟩ : ∃ z0, sizeL (closed l) = z0 := ⟨_, rfl⟩
    have HZ0 := Lib.hid hz0
    have HSZ := Lib.hid (fun W (hb : Below w.heap.size w W) => sizeOf_is (l.take n) n A c w.heap.size z0 W (by rw [List.length_take, HN.out]; omega) (by omega) hb.size ((HH.out.below hb).take n) (fun s hs => HSG.out s (List.take_subset _ _ hs)) (by rw [← hcl]; exact hz0))
    have HMX := Lib.hid (show sizeL (closed l) ≤ 84420000 from by
      have := size_take_le l (l.length - 1)
      have h5 := size_le HSG.out
      rw [HN.out] at h5
      unfold closed
      omega)
    have HNL := Lib.hid hnl
    have HCL := Lib.hid hcl
    have HRB := Lib.hid (And.intro hru.2.1.1 hru.2.2.1)
    have hsl := fun W => segs_front A N c n W (by omega)
    have e5 : (N : Int) - 1 = (n : Int) := by omega
    have HNN := Lib.hid hn
    have HRL := Lib.hid hrl2
    have hnb : n ≤ 200 := by omega
    clear HRW HRU h1 h2 h3 h4 hru hz0 hcl hnl hrl1 hn hrl2 hm hcap
    have HTM := Lib.hid (fun z X W hX => isTooMuch_is r z X W HRB.out.1 hX)
    have HTO := Lib.hid (fun b rs M A c B X W hM hm ht hB h hX => isTooOld_is r now b rs M A c B X W hM hm HRB.out.2 ht hB h hX)
    unfold ruagg at HTM HTO
    unfold ruarr at R0 HW HC2 HTM HTO ⊢
    go_enter Try.func27, Try.ntmps27
    go_upto_region 1 with fail
    rw [HW.out, HP.out]
    clear HW
    go_wp2_with fail
    refine (HC.out _ R0.out.out.2).mono ?_
    rintro e w1 ⟨rfl, hb1⟩
    have R1 := Lib.hid (R0.out.below hb1)
    clear R0 hb1 HC
    have hld := load_ru R1.out.out.1 rfl
    go_wp2_with (refine wpList_load_any (by rfl) 25 (.tmp 4) rfl p 0 rfl _ hld ?_; simp only [Act.put])
    refine (HC2.out _).mono ?_
    rintro e w2 ⟨rfl, hb2⟩
    have R2 := Lib.hid (R1.out.below hb2)
    clear R1 hb2 hld HC2
    go_wp2_with (first | (go_at_call 31; refine (HC3.out _).mono ?_; rintro e w' ⟨rfl, rfl⟩) | (go_at_call 41; refine (HSZ.out _ R2.out.out.2).mono ?_; rintro e w3 ⟨rfl, hb3⟩))
    have R3 := Lib.hid (R2.out.below hb3)
    clear R2 hb3 HSZ HC3 hsl
    go_loopw [8, 34] (fun v i wr => ∃ k z : Nat, k ≤ n ∧ sizeL ((closed l).drop k) = z ∧ v = .int .i64 (z : Int) ∧ i = .int .i64 (k : Int) ∧ RBox w p #[.int .i64 r.sb, .int .i64 r.by_, .int .i64 r.ag, .bool r.co, .int .i64 r.gr] wr ∧ GoTo r now l k) (fun _ i _ => n - (RowKit.intOf i).toNat)
    case atStart => exact ⟨0, z0, Nat.zero_le _, HZ0.out, rfl, rfl, R3.out, fun j hj => absurd hj (Nat.not_lt_zero _)⟩
    case round =>
      obtain ⟨k, z, hk, hz, rfl, rfl, hbx, hgo⟩ := hrel
      have HG := Lib.hid hgo
      have HZ := Lib.hid hz
      have R := Lib.hid hbx
      clear hbx hz hgo R3
      by_cases hlt : k < n
      · have hlr : k < l.length := by rw [HN.out]; omega
        have hlc : k < (closed l).length := by rw [closed_len, HNL.out]; exact hlt
        have hce := closed_at hlc hlr
        obtain ⟨b0, o0, rfl, hb0, hc⟩ := (HH.out.below R.out.out.2).some_ (by omega)
        obtain ⟨A1, c1, hsg⟩ := hc k hlr
        have hseg := HSG.out _ (List.getElem_mem hlr)
        obtain ⟨z1, hz1⟩ : ∃ z1, (allL l[k].rs).length = z1 := ⟨_, rfl⟩
        obtain ⟨z', hz'⟩ : ∃ z', sizeL ((closed l).drop (k + 1)) = z' := ⟨_, rfl⟩
        have hsum : z = z1 + z' := by rw [← HZ.out, size_drop hlc, hce, hz1, hz']
        have hzm : z ≤ 84420000 := by rw [← HZ.out]; exact Nat.le_trans (size_drop_le _ _) HMX.out
        obtain ⟨Mu, hMu⟩ : ∃ Mu, muchB r z = Mu := ⟨_, rfl⟩
        obtain ⟨Ol, hOl⟩ : ∃ Ol, oldB r now l[k].rs = Ol := ⟨_, rfl⟩
        have HGK0 : Hid (goesB r now l k = (Mu || Ol)) := by
          show _ = _
          unfold goesB
          rw [HZ.out, hMu, List.getD_eq_getElem?_getD, List.getElem?_eq_getElem hlr, Option.getD_some, hOl]
        have HGO : Hid (goesB r now l k = true → GoTo r now l (k + 1)) := by
          show _ → _
          intro hg j hj
          by_cases c : j < k
          · exact HG.out j c
          · obtain rfl : j = k := by omega
            exact hg
        have HST : Hid (goesB r now l k = false → m = k) := by
          show _ → _
          intro hg
          exact old_one HO.out ⟨by rw [HNL.out]; omega, HG.out, fun _ => hg⟩
        have HZN := Lib.hid hz'
        have HMM := Lib.hid (fun W => HTM.out z Mu W hMu)
        clear hc hMu hz' hce hlc HG HZ
        generalize l[k] = s at hsg hseg hz1 hOl
        obtain ⟨sb, srs⟩ := s
        obtain ⟨s0, s1, hA, hcp, hlim⟩ := hsg
        dsimp only at s0 s1 hA hcp hlim hseg hz1 hOl
        obtain ⟨M, hM⟩ : ∃ M, srs.length = M := ⟨_, rfl⟩
        have HOO := Lib.hid (fun W (hb : Below wr.heap.size wr W) => HTO.out sb srs M A1 c1 w.heap.size Ol W hM (by omega) (fun a ha => by have := (may_iff _).1 (seg_may hseg a ha); exact ⟨this.2.2.1, this.2.2.2.1⟩) (Nat.le_trans R.out.out.2.size hb.size) (hA.below (hb.mono R.out.out.2.size)) hOl)
        have HS1 := Lib.hid (fun W (hb0 : Below w.heap.size w W) (hb : Below wr.heap.size wr W) => show Calls Try.prog 41 #[.slice (some ⟨W.heap.size, 0, none⟩) 1 1] (W.alloc (.cells #[.int .i64 sb, .slice A1 M c1] 48)) (fun e w' => e = .returned (.int .i64 (z1 : Int)) ∧ Below W.heap.size W w') from by
          have hba := (Below.refl W.heap.size W).alloc (Nat.le_refl _) (.cells #[.int .i64 sb, .slice A1 M c1] 48)
          have hk := Blk.new W 48 #[.int .i64 sb, .slice A1 M c1]
          refine (sizeOf_is [⟨sb, srs⟩] 1 (some ⟨W.heap.size, 0, none⟩) 1 (W.heap.size + 1) z1 _ rfl (by omega) (by simp) (.inr ⟨W.heap.size, 0, rfl, Nat.lt_succ_self _, fun j hj => ?_⟩) (fun s hs => by rw [List.mem_singleton.1 hs]; exact hseg) (by simp [sizeL, hz1])).mono fun e w' hh => ⟨hh.1, bel_step hba hh.2⟩
          have hj0 : j = 0 := by simpa using hj
          subst hj0
          have hA2 : RecsAt (W.alloc (.cells #[.int .i64 sb, .slice A1 M c1] 48)) (W.heap.size + 1) A1 srs := ((hA.below (hb.mono R.out.out.2.size)).mono (show w.heap.size ≤ W.heap.size from hb0.size)).alloc (Nat.le_refl _) _ |>.mono (Nat.le_succ _)
          exact ⟨A1, c1, ⟨hk.cell 0, by subst hM; exact hk.cell 1, hA2, hcp, hlim⟩⟩)
        rw [hM] at s1 hcp hlim
        have hld := load_seg_at s0 s1
        obtain ⟨g9, W4, hg9, hW4, hbn, hbx, hbw⟩ := any_box R.out.out.2 48 szero (sarr sb A1 M c1)
        have HBN := Lib.hid hbn
        have HBX := Lib.hid hbx
        have HBW := Lib.hid hbw
        have R4 := Lib.hid (R.out.below hbw)
        unfold szero at hW4
        unfold sarr at HBX HBW R4
        have HW4 := Lib.hid hW4
        clear hbn hbx hbw hW4 hM hA hcp hlim R hlr hseg hz1 hOl HTM HTO
        have e1 : (k : Int) < (n : Int) := by omega
        have e6 : (z : Int) - (z1 : Int) = (z' : Int) := by omega
        have hzm2 : (z' : Int) ≤ 84420000 := by omega
        clear e5 hsum hzm
        go_upto_region 8 with (first | (refine wpList_load_any (by rfl) 48 (.tmp 37) rfl b0 (o0 + k * 2) rfl _ hld ?_; simp only [Act.put]) | (rw [HW4.out]; refine wpList_store_whole rfl 48 (.tmp 10) (.tmp 38) rfl g9 _ rfl rfl szero HBN.out info_seg rfl (by simp [Value.oneCell']) ?_; simp only [Act.put]))
        clear HW4 HBN s0 s1 hg9 hld
        generalize World.setRow _ _ _ = w5 at HBX HBW R4 ⊢
        have hlr := load_ru R4.out.out.1 rfl
        go_wp2_with (refine wpList_load_any (by rfl) 25 (.tmp 4) rfl p 0 rfl _ hlr ?_; simp only [Act.put])
        refine (HMM.out _).mono ?_
        rintro e w7 ⟨rfl, hb7⟩
        have R7 := Lib.hid (R4.out.below hb7)
        have HBX7 := Lib.hid (HBX.out.below hb7)
        have HBW7 := Lib.hid (bel_step HBW.out hb7)
        clear R4 HBX HBW hb7 hlr HMM
        cases Mu with
        | true =>
          have HGK : Hid (goesB r now l k = true) := by show _ = _; rw [HGK0.out]; rfl
          clear HGK0 HST HOO
          (try dsimp only)
          have hld := HBX7.out.loadS rfl
          go_wp2_with (refine wpList_load_any (by rfl) 48 (.tmp 10) rfl g9 0 rfl _ hld ?_; simp only [Act.put])
          refine (HS1.out _ R7.out.out.2 HBW7.out).mono ?_
          rintro e w6 ⟨rfl, hb6⟩
          have R6 := Lib.hid (R7.out.below hb6)
          clear R7 hb6 hld HS1 HBX7 HBW7
          go_wp2_with fail
          go_roundw
          case rel => exact ⟨k + 1, z', hlt, HZN.out, by go_num, by go_num, R6.out, HGO.out HGK.out⟩
          case measure => simp [RowKit.intOf]; omega
        | false =>
          have hlr := load_ru R7.out.out.1 rfl
          have hld := HBX7.out.loadS rfl
          (try dsimp only)
          go_wp2_with (first | (refine wpList_load_any (by rfl) 48 (.tmp 10) rfl g9 0 rfl _ hld ?_; simp only [Act.put]) | (refine wpList_load_any (by rfl) 25 (.tmp 4) rfl p 0 rfl _ hlr ?_; simp only [Act.put]))
          refine (HOO.out _ HBW7.out).mono ?_
          rintro e w8 ⟨rfl, hb8⟩
          have R8 := Lib.hid (R7.out.below hb8)
          have HBX8 := Lib.hid (HBX7.out.below hb8)
          have HBW8 := Lib.hid (bel_step HBW7.out hb8)
          clear R7 HBX7 HBW7 hb8 hlr hld HOO
          cases Ol with
          | true =>
            have HGK : Hid (goesB r now l k = true) := by show _ = _; rw [HGK0.out]; rfl
            clear HGK0 HST
            (try dsimp only)
            have hld := HBX8.out.loadS rfl
            go_wp2_with (refine wpList_load_any (by rfl) 48 (.tmp 10) rfl g9 0 rfl _ hld ?_; simp only [Act.put])
            refine (HS1.out _ R8.out.out.2 HBW8.out).mono ?_
            rintro e w6 ⟨rfl, hb6⟩
            have R6 := Lib.hid (R8.out.below hb6)
            clear R8 hb6 hld HS1 HBX8 HBW8
            go_wp2_with fail
            go_roundw
            case rel => exact ⟨k + 1, z', hlt, HZN.out, by go_num, by go_num, R6.out, HGO.out HGK.out⟩
            case measure => simp [RowKit.intOf]; omega
          | false =>
            obtain rfl : m = k := HST.out (by rw [HGK0.out]; rfl)
            (try dsimp only)
            go_wp2_with fail
            go_ret
            exact ⟨rfl, R8.out.out.2⟩
      · obtain rfl : k = n := by omega
        obtain rfl : m = k := old_one HO.out ⟨by rw [HNL.out]; exact Nat.le_refl _, HG.out, fun h => absurd h (by rw [HNL.out]; omega)⟩
        go_wp2_with fail
        go_ret
        exact ⟨rfl, R.out.out.2⟩
end Go.Proofs.Ytgadgmcabjnjjaa.Kpd
/- Package keep: Old, as its caller has it. -/
namespace Go.Proofs.Ytgadgmcabjnjjaa.Kpd
open Go.RowKit Go.Lib Rcd

theorem as_int (v : Value) (w : World) : (Instr.typeAssert (.iface 3 v) 20 3 true).run Try.prog w = .ok (.tuple #[v, .bool true]) w := by kernel_rfl
theorem not_int (v : Value) (w : World) : (Instr.typeAssert (.iface 30 v) 20 3 true).run Try.prog w = .ok (.tuple #[.int .i64 0, .bool false]) w := by kernel_rfl
theorem as_err (v : Value) (w : World) : (Instr.typeAssert (.iface 30 v) 20 30 false).run Try.prog w = .ok v w := by kernel_rfl
/-- May it be asked how many go? -/
def askB (l : List Sp) (r : Ru) (now : Int) : Bool := rowB l && (ruB r && decide (0 ≤ now ∧ now ≤ 1099511627776))
/-- What Old tells: how many, and an error's kind. -/
inductive OldT (l : List Sp) (r : Ru) (now : Int) : Nat → Int → Prop
  | no (h : askB l r now = false) : OldT l r now 0 1
  | yes (m : Nat) (h : askB l r now = true) (h4 : OldIs r now l m) : OldT l r now m 0
theorem ask_parts {l : List Sp} {r : Ru} {now : Int} (h : askB l r now = true) : rowB l = true ∧ ruB r = true ∧ decide (0 ≤ now ∧ now ≤ 1099511627776) = true := by
  unfold askB at h
  rw [Bool.and_eq_true, Bool.and_eq_true] at h
  exact h
theorem oldT_ex (l : List Sp) (r : Ru) (now : Int) : ∃ m E, OldT l r now m E := by
  cases h : askB l r now with
  | false => exact ⟨_, _, .no h⟩
  | true =>
    obtain ⟨m, hm⟩ := old_ex r now l
    exact ⟨_, _, .yes m h hm⟩
theorem oldV_no {l : List Sp} {r : Ru} {now : Int} (h : askB l r now = false) : OldV l r now (.iface 30 (.int .i64 1)) := by
  unfold askB at h
  cases h1 : rowB l with
  | false => exact .row h1
  | true =>
    rw [h1, Bool.true_and] at h
    cases h2 : ruB r with
    | false => exact .rules h1 h2
    | true =>
      rw [h2, Bool.true_and] at h
      exact .time h1 h2 h

set_option maxRecDepth 100000 in
set_option maxHeartbeats 4000000 in
/-- keep.Old. -/
theorem Old_is (l : List Sp) (r : Ru) (now : Int) (N : Nat) (A : Option Addr) (c B m : Nat) (E : Int) (w : World) (hN : l.length = N) (hm : N ≤ 9223372036854775807) (hcap : N ≤ c) (hB : B ≤ w.heap.size) (h : SegsAt w B A l) (hT : OldT l r now m E) :
    Calls Try.prog 9 #[.slice A N c, ruagg r, .int .i64 now] w fun e w' => e = .returned (.tuple #[.int .i64 (m : Int), .int .i64 E]) ∧ Below w.heap.size w w' := by
  have R0 := Lib.hid (RBox.new w 25 (ruarr r.sb r.by_ r.ag r.co r.gr))
  have HO := Lib.hid (fun V W (hb : Below w.heap.size w W) (hV : OldV l r now V) => old_is l r now N A c B V W hN hm hcap (Nat.le_trans hB hb.size) (h.below (hb.mono hB)) hV)
  unfold ruagg at HO ⊢
  obtain ⟨p, hp⟩ : ∃ p, w.heap.size = p := ⟨_, rfl⟩
  obtain ⟨W0, hW⟩ : ∃ W0, w.alloc (.cells (ruarr r.sb r.by_ r.ag r.co r.gr) 25) = W0 := ⟨_, rfl⟩
  rw [hW, hp] at R0
  have HW := Lib.hid hW
  have HP := Lib.hid hp
  clear hW hp h hB hN hm hcap
  cases hT with
  | no h1 =>
    have HC := Lib.hid (fun W hb => HO.out _ W hb (oldV_no h1))
    have hni := not_int (.int .i64 1)
    have hae := as_err (.int .i64 1)
    clear HO h1
    unfold ruarr at R0 HW HC ⊢
    go_enter Try.func9, Try.ntmps9
    go_upto_region 1 with fail
    rw [HW.out, HP.out]
    clear HW HP
    have hld := load_ru R0.out.out.1 rfl
    go_wp2_with (refine wpList_load_any (by rfl) 25 (.tmp 4) rfl p 0 rfl _ hld ?_; simp only [Act.put])
    refine (HC.out _ R0.out.out.2).mono ?_
    rintro e w1 ⟨rfl, hb1⟩
    have R1 := Lib.hid (R0.out.below hb1)
    clear R0 hb1 HC hld
    go_wp2_with fail
    go_quiet (fail)
    go_wp2_with fail
    go_ret2
    exact ⟨rfl, below_drewN R1.out.out.2 _⟩
  | yes m h1 h4 =>
    obtain ⟨a1, a2, a3⟩ := ask_parts h1
    have HC := Lib.hid (fun W hb => HO.out _ W hb (.good m a1 a2 a3 h4))
    have hai := as_int (.int .i64 (m : Int))
    clear HO h1 h4 a1 a2 a3
    unfold ruarr at R0 HW HC ⊢
    go_enter Try.func9, Try.ntmps9
    go_upto_region 1 with fail
    rw [HW.out, HP.out]
    clear HW HP
    have hld := load_ru R0.out.out.1 rfl
    go_wp2_with (refine wpList_load_any (by rfl) 25 (.tmp 4) rfl p 0 rfl _ hld ?_; simp only [Act.put])
    refine (HC.out _ R0.out.out.2).mono ?_
    rintro e w1 ⟨rfl, hb1⟩
    have R1 := Lib.hid (R0.out.below hb1)
    clear R0 hb1 HC hld
    go_wp2_with fail
    go_ret2
    exact ⟨rfl, R1.out.out.2⟩
end Go.Proofs.Ytgadgmcabjnjjaa.Kpd
/- The thirteenth layer's num. -/
namespace Go.Proofs.Ytgadgmcabjnjjaa.Kpd
open Go.RowKit Go.Lib

set_option maxHeartbeats 1000000 in
theorem num_is (n : Int) (w : World) : Calls Try.prog 13 #[.int .i64 n] w fun e w' => e = .returned (.int .i64 n) ∧ w = w' := by
  go_enter Try.func13, Try.ntmps13
  go_wp2
  go_ret
  exact ⟨rfl, rfl⟩
end Go.Proofs.Ytgadgmcabjnjjaa.Kpd
/- What each statement of the thirteenth layer asks last: of two empty segments none goes without bounds, one by age. -/
namespace Go.Proofs.Ytgadgmcabjnjjaa.Kpd
open Go.RowKit Go.Lib Rcd

/-- Two segments without records, laid anew. -/
theorem two_at (W : World) : SegsAt (W.alloc (.cells #[.int .i64 0, .slice none 0 0, .int .i64 0, .slice none 0 0] 48)) (W.heap.size + 1) (some ⟨W.heap.size, 0, none⟩) [spz, spz] := by
  have hk := Blk.new W 48 #[.int .i64 0, .slice none 0 0, .int .i64 0, .slice none 0 0]
  refine .inr ⟨W.heap.size, 0, rfl, Nat.lt_succ_self _, fun j hj => ⟨none, 0, ?_⟩⟩
  match j, hj with
  | 0, _ => exact ⟨hk.cell 0, hk.cell 1, .inl rfl, Nat.le_refl _, Nat.zero_le _⟩
  | 1, _ => exact ⟨hk.cell 2, hk.cell 3, .inl rfl, Nat.le_refl _, Nat.zero_le _⟩
theorem two_free : OldT [spz, spz] ⟨1, -1, -1, false, 0⟩ 9 0 0 := .yes 0 (by decide) (old_free rfl rfl)
theorem two_aged : OldT [spz, spz] ⟨1, -1, 0, false, 0⟩ 9 1 0 := .yes 1 (by decide) ⟨by decide, (fun j hj => by rw [show j = 0 by omega]; decide), fun h => absurd h (by decide)⟩

set_option maxRecDepth 100000 in
set_option maxHeartbeats 4000000 in
/-- wakes: yes. -/
theorem wakes_any (w : World) : Calls Try.prog 20 #[] w fun e w' => e = .returned (.bool true) ∧ Below w.heap.size w w' := by
  have HF := Lib.hid (fun W : World => (Old_is [spz, spz] ⟨1, -1, -1, false, 0⟩ 9 2 (some ⟨W.heap.size, 0, none⟩) 2 (W.heap.size + 1) 0 0 (W.alloc (.cells #[.int .i64 0, .slice none 0 0, .int .i64 0, .slice none 0 0] 48)) rfl (by omega) (Nat.le_refl _) (by simp) (two_at W) two_free).mono fun _ _ h => And.intro h.1 (bel_step ((Below.refl W.heap.size W).alloc (Nat.le_refl _) (.cells #[.int .i64 0, .slice none 0 0, .int .i64 0, .slice none 0 0] 48)) h.2))
  have HA := Lib.hid (fun W : World => (Old_is [spz, spz] ⟨1, -1, 0, false, 0⟩ 9 2 (some ⟨W.heap.size, 0, none⟩) 2 (W.heap.size + 1) 1 0 (W.alloc (.cells #[.int .i64 0, .slice none 0 0, .int .i64 0, .slice none 0 0] 48)) rfl (by omega) (Nat.le_refl _) (by simp) (two_at W) two_aged).mono fun _ _ h => And.intro h.1 (bel_step ((Below.refl W.heap.size W).alloc (Nat.le_refl _) (.cells #[.int .i64 0, .slice none 0 0, .int .i64 0, .slice none 0 0] 48)) h.2))
  unfold ruagg ruarr at HF HA
  dsimp only at HF HA
  rw [show ((0 : Nat) : Int) = 0 from rfl] at HF
  rw [show ((1 : Nat) : Int) = 1 from rfl] at HA
  go_enter Try.func20, Try.ntmps20
  go_wp2_with fail
  refine (HF.out w).mono ?_
  rintro e w1 ⟨rfl, hb1⟩
  have B1 := Lib.hid hb1
  clear hb1 HF
  go_wp2_with fail
  refine (HA.out w1).mono ?_
  rintro e w2 ⟨rfl, hb2⟩
  have B2 := Lib.hid (bel_step B1.out hb2)
  clear hb2 HA B1
  go_wp2_with (go_at_call 13; refine (num_is _ _).mono ?_; rintro e w' ⟨rfl, rfl⟩)
  go_ret
  exact ⟨rfl, B2.out⟩
end Go.Proofs.Ytgadgmcabjnjjaa.Kpd
