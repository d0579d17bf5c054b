/- For every list of asks: what any segments are with the last of each key alone, and which the last ones are, is the document's, or refused. No condition. -/
import Derived.Deep.CutRange
import Derived.SizedLaws
import Derived.Test.YthdefnfpjbpbkaaX13
/- The document's own answer: the last record of each key, in the order of the keys. -/
namespace Go.Proofs.Ythdefnfpjbpbkaa.Kpd
open Go.RowKit Go.Lib Rcd

theorem ret_bool2 {a b : Bool} (h : a = b) : Value.bool a = Value.bool b := by rw [h]
/-- An append of one record to a row of the call's own, into the named slot. -/
theorem wp_append_rec (d : Nat) (w : World) {o : Oper} {a : Act} {K : Act → World → Prop} {Q : Exit → Act → World → Prop} (s x : Operand) (ho : o.op = .call { callee := .builtin .append, args := #[s, x], argTypes := #[37, 37] }) (hd : o.dst = some d)
    (base : Nat) (v : Value) (n : Nat) (xs : List Value) (hs : a.eval s = v) (hown : w.ownsRow base 46 6 v n xs)
    (g : Nat) (cs : List Value) (hx : a.eval x = .slice (some ⟨g, 0, none⟩) 1 1) (hc6 : cs.length = 6) (hg : Blk w g cs.toArray) (h1 : ∀ u ∈ cs, u.oneCell' = true) (hn : n ≤ 1000000) (hbase : base ≤ w.heap.size)
    (h : ∀ v' w', w'.ownsRow base 46 6 v' (n + 1) (xs ++ cs) → w.grownBy w' v.ownBlock → K (a.put (some d) v') w') : o.wp Try.prog a w K Q := by
  obtain ⟨i0, hi, hz0, hz1, hz2⟩ := info_parts info_more
  rw [← hd] at h
  exact wp_append_own w s x 37 ho base 46 i0 (.agg zcells) 6 64 Try.underlying37 hi hz0 hz1 hz2 rfl (by decide) v n xs hs hown ⟨g, 0, none⟩ 1 1 cs hx hc6 (fun j u hu => by rw [add_new, hg.cell]; simpa using hu) h1 (by unfold maxLen; omega) (by omega) hbase (fun v' w' k1 k2 _ => h v' w' k1 k2)
/-- The rest of a slice of records. -/
theorem recs_rest' (A : Option Addr) (n c k : Nat) (hA : k = 0 ∨ ∃ b o, A = some ⟨b, o, none⟩) (h : k ≤ n) (hc : n ≤ c) :
    ∃ A', (∀ w, (Instr.sliceAt 37 (.slice A n c) (some (.int .i64 (k : Int))) none none).run Try.prog w = .ok (.slice A' (n - k) (c - k)) w) ∧ ∀ (W : World) (B : Nat) (rs : List Rc), rs.length = n → RecsAt W B A rs → RecsAt W B A' (rs.drop k) := by
  have h1 : (k : Int) ≤ (n : Int) := by omega
  have h2 : (n : Int) ≤ (c : Int) := by omega
  rcases hA with rfl | ⟨b, o, rfl⟩
  · refine ⟨A, fun w => ?_, fun W B rs _ h => by rwa [List.drop_zero]⟩
    cases A with
    | none =>
      go_simp
    | some a =>
      go_simp
  · by_cases c0 : c = k
    · subst c0
      refine ⟨some ⟨b, o, none⟩, fun w => ?_, fun W B rs hn _ => .inl (List.drop_of_length_le (by omega))⟩
      go_simp
    · by_cases k0 : k = 0
      · subst k0
        refine ⟨some ⟨b, o, none⟩, fun w => ?_, fun W B rs _ h => by rwa [List.drop_zero]⟩
        go_simp
        try simp [Addr.add]
      · refine ⟨some ⟨b, o + k * 6, none⟩, fun w => ?_, fun W B rs hn h => ?_⟩
        · have hk6 : ¬ k * 6 = 0 := by omega
          go_simp
          try simp [Addr.add, k0, c0, hk6]
        · rcases h with rfl | ⟨b', o', e1, e2, e3⟩
          · exact .inl (by simp)
          · injection e1 with e1
            injection e1 with e4 e5
            subst e4 e5
            refine .inr ⟨_, _, rfl, e2, fun j hj => ?_⟩
            rw [List.length_drop] at hj
            rw [List.getElem_drop, show o + k * 6 + j * 6 = o + (k + j) * 6 by omega]
            exact e3 (k + j) (by omega)
theorem blk_stays {W W' : World} {B e size n g : Nat} {v : Value} {xs : List Value} {cs : Array Value} (k : Blk W g cs) (hown : W.ownsRow B e size v n xs) (hg : g < B) (hgrow : W.grownBy W' v.ownBlock) : Blk W' g cs := by
  have hl := k.lt
  obtain ⟨T, k⟩ := k
  refine ⟨T, (hgrow.block g hl (fun e => ?_)).trans k⟩
  have := (hown.lt g e.symm).1
  omega
theorem any_next' {p : Rc → Bool} {l : List Rc} {j : Nat} (h : j < l.length) : (l.take (j + 1)).any p = ((l.take j).any p || p l[j]) := by
  rw [List.take_succ_eq_append_getElem h, List.any_append]; simp

set_option maxRecDepth 100000 in
set_option maxHeartbeats 16000000 in
/-- fairwayref13.Lasts. -/
theorem RLasts_is (l : List Sp) (N M F : Nat) (A : Option Addr) (c B : Nat) (w : World) (hN : l.length = N) (hm : N ≤ 9223372036854775807) (hM : (recsOf l).length = M) (hM2 : M ≤ 8000) (hB : B ≤ w.heap.size) (h : SegsAt w B A l) (hF : (lastsL (recsOf l)).length = F) :
    Calls Try.prog 17 #[.slice A N c] w fun e w' => ∃ A' c', e = .returned (.slice A' F c') ∧ w'.ownsRow w.heap.size 46 6 (.slice A' F c') F (flat (lastsL (recsOf l))) ∧ Below w.heap.size w w' := by
  have HC := Lib.hid (RRecs_is l N M A c B w hN hm hM (by omega) hB h)
  have HFF := Lib.hid hF
  obtain ⟨all, hall⟩ : ∃ all, recsOf l = all := ⟨_, rfl⟩
  rw [hall] at HC hM HFF ⊢
  have HM := Lib.hid hM
  clear hN hm hM hB h hF hall
  go_enter Try.func17, Try.ntmps17
  go_wp2_with fail
  refine HC.out.mono ?_
  rintro e w3 ⟨AA, cc, rfl, hra, hb3⟩
  have HRA := Lib.hid hra
  have B3 := Lib.hid hb3
  clear hra hb3 HC
  go_wp2_with fail
  go_loopw [4, 5] (fun v i wr => ∃ (k cnt : Nat) (out : List Rc), k ≤ M ∧ i = .int .i64 (k : Int) ∧ out.length = cnt ∧ wr.ownsRow w3.heap.size 46 6 v cnt (flat out) ∧ Goes all out k ∧ Below w3.heap.size w3 wr) (fun _ i _ => M - (RowKit.intOf i).toNat)
  case atStart => exact ⟨0, 0, [], Nat.zero_le _, rfl, rfl, World.ownsRow_nil _ _ _ _, goes_start all, Below.refl _ _⟩
  case round =>
    obtain ⟨k, cnt, out, hk, rfl, hcnt, hown, hgo, hbl⟩ := hrel
    obtain ⟨V, hV⟩ : ∃ V, V = wr := ⟨_, rfl⟩
    rw [← hV] at hown hbl ⊢
    clear hV
    have HO := Lib.hid hown
    have HB := Lib.hid hbl
    have HG := Lib.hid hgo
    have HCN := Lib.hid hcnt
    have hc8 : cnt ≤ 8000 := by
      rw [← hcnt]
      exact Nat.le_trans (goes_len hgo) (by rw [HM.out]; exact hM2)
    clear hown hbl hgo hcnt
    obtain ⟨A9, c9, hv9⟩ := row_slice HO.out
    subst hv9
    by_cases hlt : k < M
    · have hkr : k < all.length := by rw [HM.out]; exact hlt
      obtain ⟨ba, oa, rfl, hba, hca⟩ := (HRA.out.below HB.out).some_ (by omega)
      obtain ⟨c0, c1, c2, c3, c4, c5⟩ := hca k hkr
      have hyes := fun (hl : lastAt all k all[k] = true) => goes_yes hkr hl HG.out
      have hno := fun (hl : lastAt all k all[k] = false) => goes_no hkr hl HG.out
      clear hca
      generalize all[k] = x at c0 c1 c2 c3 c4 c5 hyes hno
      obtain ⟨xo, xt, xk, xb, xq, xg⟩ := x
      dsimp only at c0 c1 c2 c3 c4 c5
      obtain ⟨ks, hks⟩ : ∃ ks, str xk = ks := ⟨_, rfl⟩
      obtain ⟨bs, hbs⟩ : ∃ bs, str xb = bs := ⟨_, rfl⟩
      have hfc : rcells ⟨xo, xt, xk, xb, xq, xg⟩ = [.int .i64 xo, .int .i64 xt, .string ks, .string bs, .int .i64 xq, .bool xg] := by rw [← hks, ← hbs]; rfl
      rw [hks] at c2
      rw [hbs] at c3
      have HKS := Lib.hid (show ks.toList = xk by rw [← hks, str_toList])
      have HFC := Lib.hid hfc
      have HYES := Lib.hid hyes
      have HNO := Lib.hid hno
      have HON := Lib.hid (show ∀ z ∈ ([.int .i64 xo, .int .i64 xt, .string ks, .string bs, .int .i64 xq, .bool xg] : List Value), z.oneCell' = true by rw [← hfc]; exact one_cells _)
      have e1 : (k : Int) < (M : Int) := by omega
      obtain ⟨b9, W4, hg9, hW4, hbn, hbx, hbw⟩ := box_new (Below.refl V.heap.size V) (rarr xo xt ks bs xq xg)
      have HBN := Lib.hid hbn
      have X6 := Lib.hid hbx
      unfold zcells at hW4
      unfold rarr at X6
      have HW4 := Lib.hid hW4
      clear hbn hbx hbw hW4 hks hbs hfc hyes hno
      go_upto_region 7 with (rw [HW4.out]; refine wpList_store_whole rfl 46 (.tmp 6) (.tmp 22) rfl b9 _ rfl rfl zcells HBN.out info_rec rfl (by simp [Value.oneCell']) ?_; simp only [Act.put])
      clear HW4 HBN c0 c1 c2 c3 c4 c5 hg9
      generalize World.setRow _ _ _ = w6 at X6 ⊢
      have B6 := Lib.hid (bel_step HB.out X6.out.out.2)
      have x5 : w6.cell? ⟨b9, 5, none⟩ = some (.bool xg) := X6.out.cell 5
      have x2 : w6.cell? ⟨b9, 2, none⟩ = some (.string ks) := X6.out.cell 2
      obtain ⟨L0, hL0⟩ : ∃ L0, (!xk.isEmpty && !xg) = L0 := ⟨_, rfl⟩
      have HL0 := Lib.hid hL0
      go_cut [7] from 23 to 30 (fun s7 wx => s7 = .bool L0 ∧ wx = w6)
      case first =>
        by_cases hk0 : xk = []
        · have g1 : (ks.toList == []) = true := by rw [HKS.out, hk0]; rfl
          have g2 : ks = ByteArray.empty := by rw [← data_str ks, ← toList_data_eq, HKS.out, hk0]; rfl
          rw [hk0] at hL0
          obtain rfl : false = L0 := by rw [← hL0]; rfl
          clear hL0 hk0
          go_wp2_with fail
          go_meet
          exact ⟨rfl, rfl⟩
        · have g1 : (ks.toList == []) = false := by rw [HKS.out, beq_eq_false_iff_ne]; exact hk0
          have g2 : ¬ ks = ByteArray.empty := fun e => hk0 (by rw [← HKS.out, e, ByteArray.toList_eq]; rfl)
          cases xg with
          | true =>
            obtain rfl : false = L0 := by rw [← hL0]; simp
            clear hL0 hk0
            go_wp2_with fail
            go_meet
            exact ⟨rfl, rfl⟩
          | false =>
            obtain rfl : true = L0 := by rw [← hL0]; simp [hk0]
            clear hL0 hk0
            go_wp2_with fail
            go_meet
            exact ⟨rfl, rfl⟩
      case rest =>
        obtain ⟨rfl, hwx⟩ := hcut
        have hwy := hwx.symm
        clear hwx
        subst hwy
        clear x5 x2 hL0
        go_wp2_with fail
        go_loopw [7, 8] (fun a i wr => ∃ d jj : Nat, k + 1 + d = jj ∧ jj ≤ M ∧ i = .int .i64 (jj : Int) ∧ a = .bool (L0 && !((all.drop (k + 1)).take d).any (fun y => y.k == xk)) ∧ Below w6.heap.size w6 wr) (fun _ i _ => M - (RowKit.intOf i).toNat)
        case atStart => exact ⟨0, k + 1, rfl, hlt, by go_num, ret_bool2 (by simp), Below.refl _ _⟩
        case round =>
          obtain ⟨d, jj, hjd, hjj, rfl, rfl, hbj⟩ := hrel
          have BJ := Lib.hid hbj
          clear hbj
          obtain ⟨a0, ha0⟩ : ∃ a0, (L0 && !((all.drop (k + 1)).take d).any (fun y => y.k == xk)) = a0 := ⟨_, rfl⟩
          by_cases hjt : jj < M
          · have hjr : jj < all.length := by rw [HM.out]; exact hjt
            have hdr : d < (all.drop (k + 1)).length := by rw [List.length_drop]; omega
            have hde : (all.drop (k + 1))[d] = all[jj] := by rw [List.getElem_drop]; simp only [hjd]
            have hnx : (L0 && !((all.drop (k + 1)).take (d + 1)).any (fun y => y.k == xk)) = (a0 && !(all[jj].k == xk)) := by
              rw [any_next' hdr, hde, ← ha0, Bool.not_or, Bool.and_assoc]
            rw [ha0]
            obtain ⟨ba', oa', hAA, hba', hca⟩ := (HRA.out.below (bel_step B6.out BJ.out)).some_ (by omega)
            injection hAA with hAA
            injection hAA with q1 q2
            subst q1 q2
            have y2 := (hca jj hjr).c2
            clear hca ha0 hdr hde
            generalize all[jj] = y at y2 hnx
            obtain ⟨yo, yt, yk, yb, yq, yg⟩ := y
            dsimp only at y2 hnx
            obtain ⟨ys, hys⟩ : ∃ ys, str yk = ys := ⟨_, rfl⟩
            rw [hys] at y2
            have hyl : ys.toList = yk := by rw [← hys, str_toList]
            have HNX := Lib.hid hnx
            have HYL := Lib.hid hyl
            have x2 : wr.cell? ⟨b9, 2, none⟩ = some (.string ks) := (X6.out.below BJ.out).cell 2
            have e8 : (jj : Int) < (M : Int) := by omega
            clear hjr hnx hys hyl
            by_cases hke : yk = xk
            · have g3 : (ys.toList == ks.toList) = true := by rw [HKS.out, HYL.out, hke]; simp
              have HNX2 : Hid ((L0 && !((all.drop (k + 1)).take (d + 1)).any (fun y => y.k == xk)) = false) := by show _ = _; rw [HNX.out, hke]; simp
              clear hke
              go_upto_region 11 with fail
              go_quiet (fail)
              go_wp2_with fail
              go_roundw
              case rel => exact ⟨d + 1, jj + 1, by omega, hjt, by go_num, ret_bool2 HNX2.out.symm, below_drewN BJ.out _⟩
              case measure => simp [RowKit.intOf]; omega
            · have g3 : (ys.toList == ks.toList) = false := by rw [HKS.out, HYL.out, beq_eq_false_iff_ne]; exact hke
              have HNX2 : Hid ((L0 && !((all.drop (k + 1)).take (d + 1)).any (fun y => y.k == xk)) = a0) := by show _ = _; rw [HNX.out]; simp [hke]
              clear hke
              go_upto_region 11 with fail
              go_quiet (fail)
              go_wp2_with fail
              go_roundw
              case rel => exact ⟨d + 1, jj + 1, by omega, hjt, by go_num, ret_bool2 HNX2.out.symm, below_drewN BJ.out _⟩
              case measure => simp [RowKit.intOf]; omega
          · have hjM : jj = M := by omega
            have hdl : (all.drop (k + 1)).take d = all.drop (k + 1) := List.take_of_length_le (by rw [List.length_drop, HM.out]; omega)
            rw [hdl] at ha0 ⊢
            have hla : lastAt all k ⟨xo, xt, xk, xb, xq, xg⟩ = a0 := by
              unfold lastAt
              dsimp only
              rw [HL0.out]
              exact ha0
            rw [ha0]
            have HLA := Lib.hid hla
            have e8 : ¬ (jj : Int) < (M : Int) := by omega
            have BW := Lib.hid (bel_step B6.out BJ.out)
            have XW := Lib.hid (X6.out.below BJ.out)
            clear ha0 hdl hla hjM hjd hjj X6 BJ B6
            cases a0 with
            | false =>
              have HG2 := Lib.hid (HNO.out HLA.out)
              have OW := Lib.hid (own_below HO.out XW.out.out.2)
              clear HYES HNO HG HO
              go_wp2_with fail
              go_roundw
              case rel => exact ⟨k + 1, cnt, out, hlt, by go_num, HCN.out, OW.out, HG2.out, BW.out⟩
              case measure => simp [RowKit.intOf]; omega
            | true =>
              have HG2 := Lib.hid (HYES.out HLA.out)
              obtain ⟨w7, hw7⟩ : ∃ w7, w7 = wr := ⟨_, rfl⟩
              rw [← hw7] at XW BW ⊢
              clear hw7
              have OW := Lib.hid (own_below HO.out XW.out.out.2)
              have hcap9 := row_cap OW.out
              have hat : RecsAt w7 w7.heap.size A9 out := by
                have := OW.out
                rw [← HCN.out] at this
                exact .of_own this
              have HAT := Lib.hid hat
              obtain ⟨st, hst⟩ : ∃ st, atR out ⟨xo, xt, xk, xb, xq, xg⟩ = st := ⟨_, rfl⟩
              have hstc : st ≤ cnt := by rw [← hst, ← HCN.out]; exact at_le _ _
              have HST := Lib.hid (And.intro hst hstc)
              have hb9 : b9 < w7.heap.size := XW.out.out.1.lt
              clear hat hst HYES HNO HG HO
              go_wp2_with fail
              go_loopw [9] (fun i wr => ∃ a : Nat, a ≤ st ∧ i = .int .i64 (a : Int) ∧ Below w7.heap.size w7 wr) (fun i _ => st - (RowKit.intOf i).toNat)
              case atStart => exact ⟨0, Nat.zero_le _, rfl, Below.refl _ _⟩
              case round =>
                obtain ⟨a, has, rfl, hbt⟩ := hrel
                have BT := Lib.hid hbt
                clear hbt
                go_upto_region 15 with fail
                go_cut [62] from 49 to 62 (fun s62 wx => s62 = .bool (decide (a < st)) ∧ Below w7.heap.size w7 wx)
                case first =>
                  have x2 : wr.cell? ⟨b9, 2, none⟩ = some (.string ks) := (XW.out.below BT.out).cell 2
                  by_cases hac : a < cnt
                  · have har : a < out.length := by rw [HCN.out]; exact hac
                    obtain ⟨bo, oo, rfl, hbo, hco⟩ := (HAT.out.below BT.out).some_ (by omega)
                    have y2 := (hco a har).c2
                    have hk : kl out[a].k xk = decide (a < st) := by
                      by_cases q : a < st
                      · rw [decide_eq_true q]
                        exact at_yes (x := ⟨xo, xt, xk, xb, xq, xg⟩) har (by rw [HST.out.1]; exact q)
                      · rw [decide_eq_false q]
                        exact at_no (x := ⟨xo, xt, xk, xb, xq, xg⟩) har (by rw [HST.out.1]; omega)
                    clear hco
                    generalize out[a].k = zk at y2 hk
                    obtain ⟨zs, hzs⟩ : ∃ zs, str zk = zs := ⟨_, rfl⟩
                    rw [hzs] at y2
                    have g1 : Go.Op.bytesLess zs.toList ks.toList = decide (a < st) := by rw [← hzs, str_toList, HKS.out]; exact hk
                    have e8 : (a : Int) < (cnt : Int) := by omega
                    clear har hk hzs
                    go_quiet (fail)
                    go_wp2_with fail
                    first
                      | exact ⟨rfl, below_drewN BT.out _⟩
                      | exact ⟨ret_bool2 rfl, below_drewN BT.out _⟩
                      | (go_meet
                         first | exact ⟨rfl, below_drewN BT.out _⟩ | exact ⟨ret_bool2 rfl, below_drewN BT.out _⟩)
                  · have e8 : ¬ (a : Int) < (cnt : Int) := by omega
                    have e9 : decide (a < st) = false := decide_eq_false (by omega)
                    go_quiet (fail)
                    go_wp2_with fail
                    first
                      | exact ⟨ret_bool2 e9.symm, below_drewN BT.out _⟩
                      | (go_meet
                         exact ⟨ret_bool2 e9.symm, below_drewN BT.out _⟩)
                case rest =>
                  obtain ⟨rfl, hbc⟩ := hcut
                  have BC0 := Lib.hid hbc
                  clear hbc BT
                  by_cases hlt2 : a < st
                  · have e9 : decide (a < st) = true := decide_eq_true hlt2
                    have e10 : a ≤ 8000 := by omega
                    go_wp2_with fail
                    go_roundw
                    case rel => exact ⟨a + 1, hlt2, by go_num, BC0.out⟩
                    case measure => simp [RowKit.intOf]; omega
                  · have e9 : decide (a < st) = false := decide_eq_false hlt2
                    obtain rfl : a = st := by omega
                    have hstc2 : a ≤ c9 := Nat.le_trans hstc hcap9
                    have hsl := fun W => slice_front A9 cnt c9 a W hstc2
                    have hAk : a = 0 ∨ ∃ b o, A9 = some ⟨b, o, none⟩ := by
                      by_cases q : a = 0
                      · exact .inl q
                      · obtain ⟨b, o, hh, _⟩ := HAT.out.some_ (by rw [HCN.out]; omega)
                        exact .inr ⟨b, o, hh⟩
                    obtain ⟨A2, hrest, hdrop⟩ := recs_rest' A9 cnt c9 a hAk hstc hcap9
                    obtain ⟨w8, hw8⟩ : ∃ w8, w8 = wc := ⟨_, rfl⟩
                    rw [← hw8] at BC0 ⊢
                    clear hw8
                    have hstl : (out.take a).length = a := by rw [List.length_take, HCN.out]; omega
                    have HDL : Hid ((out.drop a).length = cnt - a) := by show _ = _; rw [List.length_drop, HCN.out]
                    have e10 : a ≤ 8000 := by omega
                    go_upto_region 17 with fail
                    have hbd := below_drewN (Below.refl w8.heap.size w8) 1
                    have hblk : Blk w8 b9 #[.int .i64 xo, .int .i64 xt, .string ks, .string bs, .int .i64 xq, .bool xg] := (XW.out.below BC0.out).out.1
                    refine wp_region_held_drew (S := fun W => Blk W b9 #[.int .i64 xo, .int .i64 xt, .string ks, .string bs, .int .i64 xq, .bool xg]) (by kernel_rfl) (hblk.drewN 1) (fun hS => ?_)
                    have hsz : w8.drew.heap.size = w8.heap.size := rfl
                    have hBD : Below w7.heap.size w7 w8.drew := bel_step BC0.out hbd
                    clear hbd hblk BC0
                    generalize w8.drew = Wd at hS hBD hsz ⊢
                    have HBD : Hid (Below w3.heap.size w3 Wd) := bel_step BW.out hBD
                    have HB9 : Hid (b9 < Wd.heap.size) := Nat.lt_of_lt_of_le hb9 hBD.size
                    have HDS : Hid (Wd.heap.size = Wd.heap.size) := rfl
                    have hcpy := fun W (hb : Below Wd.heap.size Wd W) => RCopyRecs_is (out.take a) A9 c9 w7.heap.size W (by rw [hstl]; omega) (Nat.le_trans hBD.size hb.size) ((HAT.out.below (hBD.trans (hb.mono hBD.size))).take a)
                    rw [hstl] at hcpy
                    have HCPY := Lib.hid hcpy
                    have HRD := Lib.hid (fun W (hb : Below Wd.heap.size Wd W) => hdrop W w7.heap.size out HCN.out (HAT.out.below (hBD.trans (hb.mono hBD.size))))
                    clear hcpy hdrop hBD hsz hAk hstl hb9
                    refine take_op 0 65 (.slice A9 cnt c9) rfl rfl (by kernel_rfl) (fun _ _ _ h => h) (by rfl) hS (fun w' hS' => ?hv1) ?hh1
                    case hv1 => (go_simp; try with_reducible rfl)
                    simp only [Act.put, List.setIfInBounds_toArray, List.set_cons_zero, List.set_cons_succ]
                    refine take_op 1 66 (.int .i64 (a : Int)) rfl rfl (by kernel_rfl) (fun _ _ _ h => h) (by rfl) hS (fun w' hS' => ?hv2) ?hh2
                    case hv2 => (go_simp; try with_reducible rfl)
                    simp only [Act.put, List.setIfInBounds_toArray, List.set_cons_zero, List.set_cons_succ]
                    refine take_op 2 67 (.slice A9 a c9) rfl rfl (by kernel_rfl) (fun _ _ _ h => h) (by rfl) hS (fun w' hS' => ?hv3) ?hh3
                    case hv3 => (have hq := hsl w'; go_simp; try with_reducible rfl)
                    simp only [Act.put, List.setIfInBounds_toArray, List.set_cons_zero, List.set_cons_succ]
                    refine take_load 4 69 46 (.tmp 6) b9 0 (.agg #[.int .i64 xo, .int .i64 xt, .string ks, .string bs, .int .i64 xq, .bool xg]) rfl rfl (by kernel_rfl) (fun _ _ _ h => h) (by rfl) hS rfl rfl (fun w' hS' => load_blk hS' rfl) ?_
                    simp only [Act.put, List.setIfInBounds_toArray, List.set_cons_zero, List.set_cons_succ]
                    refine two_ops 3 5 rfl rfl (by kernel_rfl) (by rfl) (by rfl) (wp_call_ex 68 31 #[.slice A9 a c9] _ rfl (by go_simp) (HCPY.out Wd (Below.refl _ _)) (fun e Wa hR => ?_)) (wp_made 70 (.slice (some ⟨Wd.heap.size, 0, none⟩) 1 1) rfl (w' := Wd.alloc (.cells #[.int .i64 xo, .int .i64 xt, .string ks, .string bs, .int .i64 xq, .bool xg] 46)) (by go_simp; try rfl) ⟨hS.alloc _, ?_⟩)
                    · obtain ⟨A4, c4, rfl, ho4, hb4⟩ := hR
                      refine ⟨_, rfl, hS.below hb4, ?_⟩
                      simp only [Act.put, List.setIfInBounds_toArray, List.set_cons_zero, List.set_cons_succ]
                      have hSa := hS.below hb4
                      refine only_op 5 rfl (by kernel_rfl) (by rfl) (wp_made 70 (.slice (some ⟨Wa.heap.size, 0, none⟩) 1 1) rfl (w' := Wa.alloc (.cells #[.int .i64 xo, .int .i64 xt, .string ks, .string bs, .int .i64 xq, .bool xg] 46)) (by go_simp; try rfl) ⟨hSa.alloc _, ?_⟩)
                      simp only [Act.put, List.setIfInBounds_toArray, List.set_cons_zero, List.set_cons_succ]
                      have GB : Blk (Wa.alloc (.cells #[.int .i64 xo, .int .i64 xt, .string ks, .string bs, .int .i64 xq, .bool xg] 46)) Wa.heap.size ([.int .i64 xo, .int .i64 xt, .string ks, .string bs, .int .i64 xq, .bool xg] : List Value).toArray := Blk.new Wa 46 #[.int .i64 xo, .int .i64 xt, .string ks, .string bs, .int .i64 xq, .bool xg]
                      have OB := ho4.alloc (.cells #[.int .i64 xo, .int .i64 xt, .string ks, .string bs, .int .i64 xq, .bool xg] 46)
                      have hSb := hSa.alloc (.cells #[.int .i64 xo, .int .i64 xt, .string ks, .string bs, .int .i64 xq, .bool xg] 46)
                      have hbB := hb4.alloc hb4.size (.cells #[.int .i64 xo, .int .i64 xt, .string ks, .string bs, .int .i64 xq, .bool xg] 46)
                      have SB := hbB.size
                      obtain ⟨q4, hq4⟩ : ∃ q4, Wa.heap.size = q4 := ⟨_, rfl⟩
                      rw [hq4] at GB ⊢
                      clear ho4 hb4 hSa hq4
                      generalize Wa.alloc _ = Wb at GB OB hSb hbB SB ⊢
                      refine only_op 6 rfl (by kernel_rfl) (by rfl) (wp_append_rec 71 Wb (.tmp 68) (.tmp 70) rfl rfl Wd.heap.size (.slice A4 a c4) a (flat (out.take a)) rfl OB q4 [.int .i64 xo, .int .i64 xt, .string ks, .string bs, .int .i64 xq, .bool xg] rfl rfl GB HON.out (by omega) SB (fun v5 Wc hown5 hgr => ?_))
                      have hS9 := blk_stays hSb OB (by rw [← HDS.out]; exact HB9.out) hgr
                      refine ⟨hS9, ?_⟩
                      simp only [Act.put, List.setIfInBounds_toArray, List.set_cons_zero, List.set_cons_succ]
                      have BC := HBD.out.trans (((below_grown SB OB hgr).mono (Nat.le_refl _)) |> fun hh => (hbB.trans hh).mono HBD.out.size)
                      have RD9 := HRD.out Wc (hbB.trans (below_grown SB OB hgr))
                      refine take_op 7 10 v5 rfl rfl (by kernel_rfl) (fun _ _ _ h => h) (by rfl) hS9 (fun w' hS' => ?hva7) ?hha7
                      case hva7 => (go_simp; try with_reducible rfl)
                      simp only [Act.put, List.setIfInBounds_toArray, List.set_cons_zero, List.set_cons_succ]
                      refine wpAnyH_done (by kernel_rfl) ?_ _
                      obtain ⟨v6, W6, hr6, hown6, hgr6⟩ := run_more (c := c9 - a) hown5 HDL.out RD9 (by have := HST.out.2; omega) (Nat.le_trans SB (below_grown SB OB hgr).size)
                      have hB6 := (BC.trans ((below_grown (Nat.le_trans SB (below_grown SB OB hgr).size) hown5 hgr6).mono HBD.out.size))
                      have O6 : Hid (W6.ownsRow w3.heap.size 46 6 v6 (cnt + 1) (flat (insR out ⟨xo, xt, xk, xb, xq, xg⟩))) := by
                        show World.ownsRow _ _ _ _ _ _ _
                        have e : flat (insR out ⟨xo, xt, xk, xb, xq, xg⟩) = flat (out.take a) ++ [.int .i64 xo, .int .i64 xt, .string ks, .string bs, .int .i64 xq, .bool xg] ++ flat (out.drop a) := by
                          unfold insR
                          rw [HST.out.1, flat_app, flat_cons, HFC.out, List.append_assoc]
                        have en : a + 1 + (cnt - a) = cnt + 1 := by have := HST.out.2; omega
                        rw [e, ← en]
                        exact own_mono hown6 HBD.out.size
                      have L6 : Hid ((insR out ⟨xo, xt, xk, xb, xq, xg⟩).length = cnt + 1) := by show _ = _; rw [ins_len, HCN.out]
                      have B6' := Lib.hid hB6
                      clear hown5 hgr hown6 hgr6 hS9 RD9 BC hB6 OB GB hSb hbB SB
                      go_wp2_with (at_builtin; refine wpList_app rfl (.tmp 72) (.tmp 75) _ rfl _ _ _ _ rfl rfl hr6 ?_)
                      clear hr6
                      go_roundw
                      case rel => exact ⟨k + 1, cnt + 1, _, hlt, by go_num, L6.out, O6.out, HG2.out, B6'.out⟩
                      case measure => simp [RowKit.intOf]; omega
                    · simp only [Act.put, List.setIfInBounds_toArray, List.set_cons_zero, List.set_cons_succ]
                      have hb5 := (Below.refl Wd.heap.size Wd).alloc (Nat.le_refl _) (.cells #[.int .i64 xo, .int .i64 xt, .string ks, .string bs, .int .i64 xq, .bool xg] 46)
                      have GA : Blk (Wd.alloc (.cells #[.int .i64 xo, .int .i64 xt, .string ks, .string bs, .int .i64 xq, .bool xg] 46)) Wd.heap.size ([.int .i64 xo, .int .i64 xt, .string ks, .string bs, .int .i64 xq, .bool xg] : List Value).toArray := Blk.new Wd 46 #[.int .i64 xo, .int .i64 xt, .string ks, .string bs, .int .i64 xq, .bool xg]
                      have hSa := hS.alloc (.cells #[.int .i64 xo, .int .i64 xt, .string ks, .string bs, .int .i64 xq, .bool xg] 46)
                      have hcp2 := HCPY.out (Wd.alloc (.cells #[.int .i64 xo, .int .i64 xt, .string ks, .string bs, .int .i64 xq, .bool xg] 46)) hb5
                      obtain ⟨q4, hq4⟩ : ∃ q4, Wd.heap.size = q4 := ⟨_, rfl⟩
                      have hq5 : q4 ≤ Wd.heap.size := Nat.le_of_eq hq4.symm
                      rw [hq4] at GA ⊢
                      generalize Wd.alloc _ = Wa at GA hSa hb5 hcp2 ⊢
                      refine only_op 3 rfl (by kernel_rfl) (by rfl) (wp_call_ex 68 31 #[.slice A9 a c9] _ rfl (by go_simp) hcp2 (fun e Wb hR => ?_))
                      obtain ⟨A4, c4, rfl, ho4, hb4⟩ := hR
                      refine ⟨_, rfl, hSa.below hb4, ?_⟩
                      simp only [Act.put, List.setIfInBounds_toArray, List.set_cons_zero, List.set_cons_succ]
                      have GB := GA.below hb4
                      have OB := own_mono ho4 hb5.size
                      have hSb := hSa.below hb4
                      have hbB := bel_step hb5 hb4
                      have SB := hbB.size
                      clear GA hSa hcp2 ho4 hb4 hb5
                      refine only_op 6 rfl (by kernel_rfl) (by rfl) (wp_append_rec 71 Wb (.tmp 68) (.tmp 70) rfl rfl Wd.heap.size (.slice A4 a c4) a (flat (out.take a)) rfl OB q4 [.int .i64 xo, .int .i64 xt, .string ks, .string bs, .int .i64 xq, .bool xg] rfl rfl GB HON.out (by omega) SB (fun v5 Wc hown5 hgr => ?_))
                      have hS9 := blk_stays hSb OB (by rw [← HDS.out]; exact HB9.out) hgr
                      refine ⟨hS9, ?_⟩
                      simp only [Act.put, List.setIfInBounds_toArray, List.set_cons_zero, List.set_cons_succ]
                      have BC := HBD.out.trans (((below_grown SB OB hgr).mono (Nat.le_refl _)) |> fun hh => (hbB.trans hh).mono HBD.out.size)
                      have RD9 := HRD.out Wc (hbB.trans (below_grown SB OB hgr))
                      refine take_op 7 10 v5 rfl rfl (by kernel_rfl) (fun _ _ _ h => h) (by rfl) hS9 (fun w' hS' => ?hvb7) ?hhb7
                      case hvb7 => (go_simp; try with_reducible rfl)
                      simp only [Act.put, List.setIfInBounds_toArray, List.set_cons_zero, List.set_cons_succ]
                      refine wpAnyH_done (by kernel_rfl) ?_ _
                      obtain ⟨v6, W6, hr6, hown6, hgr6⟩ := run_more (c := c9 - a) hown5 HDL.out RD9 (by have := HST.out.2; omega) (Nat.le_trans SB (below_grown SB OB hgr).size)
                      have hB6 := (BC.trans ((below_grown (Nat.le_trans SB (below_grown SB OB hgr).size) hown5 hgr6).mono HBD.out.size))
                      have O6 : Hid (W6.ownsRow w3.heap.size 46 6 v6 (cnt + 1) (flat (insR out ⟨xo, xt, xk, xb, xq, xg⟩))) := by
                        show World.ownsRow _ _ _ _ _ _ _
                        have e : flat (insR out ⟨xo, xt, xk, xb, xq, xg⟩) = flat (out.take a) ++ [.int .i64 xo, .int .i64 xt, .string ks, .string bs, .int .i64 xq, .bool xg] ++ flat (out.drop a) := by
                          unfold insR
                          rw [HST.out.1, flat_app, flat_cons, HFC.out, List.append_assoc]
                        have en : a + 1 + (cnt - a) = cnt + 1 := by have := HST.out.2; omega
                        rw [e, ← en]
                        exact own_mono hown6 HBD.out.size
                      have L6 : Hid ((insR out ⟨xo, xt, xk, xb, xq, xg⟩).length = cnt + 1) := by show _ = _; rw [ins_len, HCN.out]
                      have B6' := Lib.hid hB6
                      clear hown5 hgr hown6 hgr6 hS9 RD9 BC hB6 OB GB hSb hbB SB
                      go_wp2_with (at_builtin; refine wpList_app rfl (.tmp 72) (.tmp 75) _ rfl _ _ _ _ rfl rfl hr6 ?_)
                      clear hr6
                      go_roundw
                      case rel => exact ⟨k + 1, cnt + 1, _, hlt, by go_num, L6.out, O6.out, HG2.out, B6'.out⟩
                      case measure => simp [RowKit.intOf]; omega
    · have hkM : k = M := by omega
      have e1 : ¬ (k : Int) < (M : Int) := by omega
      have hend := goes_end (by rw [HM.out, hkM]; exact Nat.le_refl _) HG.out
      subst hend
      obtain rfl : cnt = F := by rw [← HCN.out, HFF.out]
      have OE := Lib.hid (own_mono HO.out B3.out.size)
      have BE := Lib.hid (bel_step B3.out HB.out)
      clear HG HO HB B3
      go_wp2_with fail
      go_ret
      exact ⟨A9, c9, rfl, OE.out, BE.out⟩
end Go.Proofs.Ythdefnfpjbpbkaa.Kpd
/- Records of the call's own written over. -/
namespace Go.Proofs.Ythdefnfpjbpbkaa
open Go.RowKit Go.Lib Rcd

theorem own_cells {w : World} {B e n g c : Nat} {xs : List Value} (h : w.ownsRow B e 6 (.slice (some ⟨g, 0, none⟩) n c) n xs) {j : Nat} (hj : j < n * 6) : ∃ v, w.cell? ⟨g, j, none⟩ = some v := by
  refine ⟨xs[j]'(by rw [h.1]; exact hj), ?_⟩
  rw [h.cellAt j hj]
  exact List.getElem?_eq_getElem _
theorem own_addr {w : World} {B e n c : Nat} {A : Option Addr} {xs : List Value} (h : w.ownsRow B e 6 (.slice A n c) n xs) (hn : 0 < n) : ∃ g, A = some ⟨g, 0, none⟩ ∧ B ≤ g := by
  rcases h.2 with ⟨_, h0⟩ | ⟨g, cap, cur, hv, hg, _⟩
  · omega
  · injection hv with h1
    exact ⟨g, h1, hg⟩
theorem own_put {w : World} {B e n g c : Nat} {xs : List Value} (h : w.ownsRow B e 6 (.slice (some ⟨g, 0, none⟩) n c) n xs) (j : Nat) (a : Value) :
    (∃ ys, (w.setCell ⟨g, j, none⟩ a).ownsRow B e 6 (.slice (some ⟨g, 0, none⟩) n c) n ys) ∧ Below B w (w.setCell ⟨g, j, none⟩ a) := by
  have hg : B ≤ g := by
    rcases h.2 with ⟨hv, _⟩ | ⟨g', cap, cur, hv, hg, _⟩
    · cases hv
    · injection hv with h1
      injection h1 with h1
      injection h1 with h1
      omega
  exact ⟨⟨_, (h.stored j a).1⟩, (Below.refl B w).setCell (p := ⟨g, j, none⟩) hg _⟩
theorem own_six {w : World} {B e n g c : Nat} {xs : List Value} (h : w.ownsRow B e 6 (.slice (some ⟨g, 0, none⟩) n c) n xs) (j0 j1 j2 j3 j4 j5 : Nat) (a0 a1 a2 a3 a4 a5 : Value) :
    (∃ ys, ((((((w.setCell ⟨g, j0, none⟩ a0).setCell ⟨g, j1, none⟩ a1).setCell ⟨g, j2, none⟩ a2).setCell ⟨g, j3, none⟩ a3).setCell ⟨g, j4, none⟩ a4).setCell ⟨g, j5, none⟩ a5).ownsRow B e 6 (.slice (some ⟨g, 0, none⟩) n c) n ys) ∧
    Below B w ((((((w.setCell ⟨g, j0, none⟩ a0).setCell ⟨g, j1, none⟩ a1).setCell ⟨g, j2, none⟩ a2).setCell ⟨g, j3, none⟩ a3).setCell ⟨g, j4, none⟩ a4).setCell ⟨g, j5, none⟩ a5) := by
  obtain ⟨⟨y0, k0⟩, b0⟩ := own_put h j0 a0
  obtain ⟨⟨y1, k1⟩, b1⟩ := own_put k0 j1 a1
  obtain ⟨⟨y2, k2⟩, b2⟩ := own_put k1 j2 a2
  obtain ⟨⟨y3, k3⟩, b3⟩ := own_put k2 j3 a3
  obtain ⟨⟨y4, k4⟩, b4⟩ := own_put k3 j4 a4
  obtain ⟨⟨y5, k5⟩, b5⟩ := own_put k4 j5 a5
  exact ⟨⟨y5, k5⟩, ((((b0.trans b1).trans b2).trans b3).trans b4).trans b5⟩

set_option maxRecDepth 100000 in
set_option maxHeartbeats 4000000 in
/-- fairwaylaw0.Recs. -/
theorem Spoil_is (B n c : Nat) (A : Option Addr) (xs : List Value) (w : World) (hB : B ≤ w.heap.size) (hn : n ≤ 1000000) (h : w.ownsRow B 46 6 (.slice A n c) n xs) :
    Calls Try.prog 28 #[.slice A n c] w fun e w' => (∃ v, e = .returned v) ∧ Below B w w' := by
  obtain ⟨i0, hi, hz0, hz1, hz2⟩ := info_parts info_more
  have H := Lib.hid h
  clear h
  go_enter Try.func28, Try.ntmps28
  go_wp2_with fail
  go_loopw [2] (fun i wr => ∃ (k : Nat) (ys : List Value), k ≤ n ∧ i = .int .i64 (k : Int) ∧ wr.ownsRow B 46 6 (.slice A n c) n ys ∧ Below B w wr) (fun i _ => n - (RowKit.intOf i).toNat)
  case atStart => exact ⟨0, xs, Nat.zero_le _, rfl, H.out, Below.refl _ _⟩
  case round =>
    obtain ⟨k, ys, hk, rfl, hown, hb⟩ := hrel
    have hBr : B ≤ wr.heap.size := Nat.le_trans hB hb.size
    by_cases hlt : k < n
    · obtain ⟨g, rfl, hg⟩ := own_addr hown (by omega)
      obtain ⟨v0, c0⟩ := own_cells hown (j := k * 6) (by omega)
      obtain ⟨v1, c1⟩ := own_cells hown (j := k * 6 + 1) (by omega)
      obtain ⟨v2, c2⟩ := own_cells hown (j := k * 6 + 2) (by omega)
      obtain ⟨v3, c3⟩ := own_cells hown (j := k * 6 + 3) (by omega)
      obtain ⟨v4, c4⟩ := own_cells hown (j := k * 6 + 4) (by omega)
      obtain ⟨v5, c5⟩ := own_cells hown (j := k * 6 + 5) (by omega)
      have f0 := hown.frozenAt (k * 6)
      have f1 := hown.frozenAt (k * 6 + 1)
      have f2 := hown.frozenAt (k * 6 + 2)
      have f3 := hown.frozenAt (k * 6 + 3)
      have f4 := hown.frozenAt (k * 6 + 4)
      have f5 := hown.frozenAt (k * 6 + 5)
      have H4 := Lib.hid (own_six hown (k * 6) (k * 6 + 1) (k * 6 + 2) (k * 6 + 3) (k * 6 + 4) (k * 6 + 5) (.int .i64 (-9)) (.int .i64 0) (.string ⟨#[]⟩) (.string ⟨#[]⟩) (.int .i64 0) (.bool false))
      have HB := Lib.hid hb
      have hkI : (k : Int) < (n : Int) := by omega
      clear hown hb H
      go_wp2_with fail
      go_roundw
      case rel =>
        obtain ⟨⟨zs, hz⟩, hbb⟩ := H4.out
        exact ⟨k + 1, zs, hlt, by go_num, hz, HB.out.trans hbb⟩
      case measure => simp [RowKit.intOf]; omega
    · obtain rfl : k = n := by omega
      have HO := Lib.hid hown
      have HB := Lib.hid hb
      clear hown hb H
      go_wp2_with (at_builtin; refine wpList_append_own _ rfl _ _ 37 rfl B 46 i0 (.agg zcells) 6 64 Try.underlying37 hi hz0 hz1 hz2 rfl (by decide) _ _ _ rfl (HO.out.alloc _) ⟨wr.heap.size, 0, none⟩ 1 1 [.int .i64 0, .int .i64 0, .string ⟨#[]⟩, .string ⟨#[]⟩, .int .i64 0, .bool false] rfl rfl ?c1 ?c2 ?c3 ?c4 ?c5 ?_)
      case c1 => exact fun jj uu h => cells_new wr _ [.int .i64 0, .int .i64 0, .string ⟨#[]⟩, .string ⟨#[]⟩, .int .i64 0, .bool false] jj uu h
      case c2 => exact one_cells zero
      case c3 => unfold maxLen; omega
      case c4 => first | omega | (simp; omega)
      case c5 => simp; omega
      intro v' w1 hown' hgrow _
      have hnx := HB.out.trans (below_alloc_grown hBr HO.out hgrow)
      have HN := Lib.hid hnx
      clear hown' hgrow hnx
      go_wp2_with fail
      exact bodyPost_end (v := .tuple #[]) (by simp [results, Try.results28]) rfl ⟨⟨_, rfl⟩, HN.out⟩

end Go.Proofs.Ythdefnfpjbpbkaa
/- Records of the call's own written over: nothing else is. -/
namespace Go.Proofs.Ythdefnfpjbpbkaa
open Go.RowKit Go.Lib Rcd

theorem grown_trans {w w1 w2 : World} {row : Option Nat} (h1 : w.grownBy w1 row) (h2 : w1.grownBy w2 row) : w.grownBy w2 row :=
  ⟨h2.os.trans h1.os, h2.tape.trans h1.tape, h2.output.trans h1.output, Nat.le_trans h1.size h2.size, fun k hk hne => (h2.block k (Nat.lt_of_lt_of_le hk h1.size) hne).trans (h1.block k hk hne)⟩
theorem grown_cell (W : World) (g j : Nat) (v : Value) : W.grownBy (W.setCell ⟨g, j, none⟩ v) (some g) :=
  ⟨rfl, rfl, rfl, by simp, fun k _ hne => Below.heap_setCell W ⟨g, j, none⟩ v k (fun e => hne (by rw [e]))⟩
theorem six_grown (w : World) (g j0 j1 j2 j3 j4 j5 : Nat) (a0 a1 a2 a3 a4 a5 : Value) : w.grownBy ((((((w.setCell ⟨g, j0, none⟩ a0).setCell ⟨g, j1, none⟩ a1).setCell ⟨g, j2, none⟩ a2).setCell ⟨g, j3, none⟩ a3).setCell ⟨g, j4, none⟩ a4).setCell ⟨g, j5, none⟩ a5) (some g) :=
  grown_trans (grown_trans (grown_trans (grown_trans (grown_trans (grown_cell w g j0 a0) (grown_cell _ g j1 a1)) (grown_cell _ g j2 a2)) (grown_cell _ g j3 a3)) (grown_cell _ g j4 a4)) (grown_cell _ g j5 a5)

set_option maxRecDepth 100000 in
set_option maxHeartbeats 4000000 in
/-- fairwaylaw0.Recs: nothing but the row is written. -/
theorem SpoilG_is (B n c : Nat) (A : Option Addr) (xs : List Value) (w : World) (hB : B ≤ w.heap.size) (hn : n ≤ 1000000) (h : w.ownsRow B 46 6 (.slice A n c) n xs) :
    Calls Try.prog 28 #[.slice A n c] w fun e w' => (∃ v, e = .returned v) ∧ w.grownBy w' (Value.slice A n c).ownBlock := by
  obtain ⟨i0, hi, hz0, hz1, hz2⟩ := info_parts info_more
  have H := Lib.hid h
  clear h
  go_enter Try.func28, Try.ntmps28
  go_wp2_with fail
  go_loopw [2] (fun i wr => ∃ (k : Nat) (ys : List Value), k ≤ n ∧ i = .int .i64 (k : Int) ∧ wr.ownsRow B 46 6 (.slice A n c) n ys ∧ w.grownBy wr (Value.slice A n c).ownBlock) (fun i _ => n - (RowKit.intOf i).toNat)
  case atStart => exact ⟨0, xs, Nat.zero_le _, rfl, H.out, World.grownBy.refl _ _⟩
  case round =>
    obtain ⟨k, ys, hk, rfl, hown, hb⟩ := hrel
    have hBr : B ≤ wr.heap.size := Nat.le_trans hB hb.size
    by_cases hlt : k < n
    · obtain ⟨g, rfl, hg⟩ := own_addr hown (by omega)
      obtain ⟨v0, c0⟩ := own_cells hown (j := k * 6) (by omega)
      obtain ⟨v1, c1⟩ := own_cells hown (j := k * 6 + 1) (by omega)
      obtain ⟨v2, c2⟩ := own_cells hown (j := k * 6 + 2) (by omega)
      obtain ⟨v3, c3⟩ := own_cells hown (j := k * 6 + 3) (by omega)
      obtain ⟨v4, c4⟩ := own_cells hown (j := k * 6 + 4) (by omega)
      obtain ⟨v5, c5⟩ := own_cells hown (j := k * 6 + 5) (by omega)
      have f0 := hown.frozenAt (k * 6)
      have f1 := hown.frozenAt (k * 6 + 1)
      have f2 := hown.frozenAt (k * 6 + 2)
      have f3 := hown.frozenAt (k * 6 + 3)
      have f4 := hown.frozenAt (k * 6 + 4)
      have f5 := hown.frozenAt (k * 6 + 5)
      have H4 := Lib.hid (own_six hown (k * 6) (k * 6 + 1) (k * 6 + 2) (k * 6 + 3) (k * 6 + 4) (k * 6 + 5) (.int .i64 (-9)) (.int .i64 0) (.string ⟨#[]⟩) (.string ⟨#[]⟩) (.int .i64 0) (.bool false))
      have HB := Lib.hid hb
      have hkI : (k : Int) < (n : Int) := by omega
      clear hown hb H
      go_wp2_with fail
      go_roundw
      case rel =>
        obtain ⟨⟨zs, hz⟩, _⟩ := H4.out
        exact ⟨k + 1, zs, hlt, by go_num, hz, grown_trans HB.out (six_grown wr g _ _ _ _ _ _ _ _ _ _ _ _)⟩
      case measure => simp [RowKit.intOf]; omega
    · obtain rfl : k = n := by omega
      have HO := Lib.hid hown
      have HB := Lib.hid hb
      clear hown hb H
      go_wp2_with (at_builtin; refine wpList_append_own _ rfl _ _ 37 rfl B 46 i0 (.agg zcells) 6 64 Try.underlying37 hi hz0 hz1 hz2 rfl (by decide) _ _ _ rfl (HO.out.alloc _) ⟨wr.heap.size, 0, none⟩ 1 1 [.int .i64 0, .int .i64 0, .string ⟨#[]⟩, .string ⟨#[]⟩, .int .i64 0, .bool false] rfl rfl ?c1 ?c2 ?c3 ?c4 ?c5 ?_)
      case c1 => exact fun jj uu h => cells_new wr _ [.int .i64 0, .int .i64 0, .string ⟨#[]⟩, .string ⟨#[]⟩, .int .i64 0, .bool false] jj uu h
      case c2 => exact one_cells zero
      case c3 => unfold maxLen; omega
      case c4 => first | omega | (simp; omega)
      case c5 => simp; omega
      intro v' w1 hown' hgrow _
      have hnx := grown_trans HB.out (grown_trans (World.grownBy_alloc wr _ _) hgrow)
      have HN := Lib.hid hnx
      clear hown' hgrow hnx
      go_wp2_with fail
      exact bodyPost_end (v := .tuple #[]) (by simp [results, Try.results28]) rfl ⟨⟨_, rfl⟩, HN.out⟩

end Go.Proofs.Ythdefnfpjbpbkaa
/- Segments of the call's own written over: nothing that was there before them is. -/
namespace Go.Proofs.Ythdefnfpjbpbkaa.Kpd
open Go.RowKit Go.Lib Rcd

/-- From the k-th on the segments stand as they did. -/
structure Rest (w : World) (B : Nat) (v : Value) (N : Nat) (xs : List Sx) (k : Nat) : Prop where
  row : ∃ ys, w.ownsRow B 49 2 v N ys ∧ ∀ j (hj : j < xs.length), k ≤ j → ys[j * 2 + 1]? = some xs[j].v
  own : ∀ j (hj : j < xs.length), k ≤ j → w.ownsRow B 46 6 xs[j].v xs[j].s.rs.length (flat xs[j].s.rs)
theorem rest_start {w : World} {B : Nat} {v : Value} {N : Nat} {l : List Sp} {xs : List Sx} (h : OwnS w B v l xs) (hN : l.length = N) : Rest w B v N xs 0 := by
  subst hN
  refine ⟨⟨_, h.row, fun j hj _ => ?_⟩, fun j hj _ => (h.own _ (List.getElem_mem hj)).1⟩
  rw [xflat_at xs j 1 hj (by omega)]
  rfl
theorem rest_next {w w1 : World} {B g c : Nat} {N k : Nat} {xs : List Sx} {a0 a1 : Value} (h : Rest w B (.slice (some ⟨g, 0, none⟩) N c) N xs k) (hk : k < xs.length) (hoff : ∀ i j (hi : i < xs.length) (hj : j < xs.length), i ≠ j → Apart xs[i] xs[j]) (hg : w.grownBy w1 xs[k].v.ownBlock) :
    Rest ((w1.setCell ⟨g, k * 2, none⟩ a0).setCell ⟨g, k * 2 + 1, none⟩ a1) B (.slice (some ⟨g, 0, none⟩) N c) N xs (k + 1) := by
  obtain ⟨⟨ys, hrow, hys⟩, hown⟩ := h
  have hne : 49 ≠ 46 := fun e => seg_not_rec e.symm
  have hrow1 := rows_apart hrow (hown k hk (Nat.le_refl _)) hne hg
  have hst1 := hrow1.stored (k * 2) a0
  have hst2 := hst1.1.stored (k * 2 + 1) a1
  refine ⟨⟨_, hst2.1, fun j hj hkj => ?_⟩, fun j hj hkj => ?_⟩
  · rw [List.getElem?_set_ne (by omega), List.getElem?_set_ne (by omega)]
    exact hys j hj (by omega)
  · have h1 := (hown j hj (by omega)).kept hg (by
      cases hb : xs[j].v.ownBlock with
      | none => exact .inl rfl
      | some q => exact .inr (fun e => hoff j k hj hk (by omega) q hb e.symm))
    have h2 := rows_apart h1 hrow1 seg_not_rec hst1.2
    exact rows_apart h2 hst1.1 seg_not_rec hst2.2

set_option maxRecDepth 100000 in
set_option maxHeartbeats 4000000 in
/-- fairwaylaw0.Segs. -/
theorem SpoilS_is (l : List Sp) (xs : List Sx) (B N c : Nat) (A : Option Addr) (w : World) (hB : B ≤ w.heap.size) (hN : l.length = N) (hm : N ≤ 1000000) (hs : ∀ s ∈ l, s.rs.length ≤ 1000000) (h : OwnS w B (.slice A N c) l xs) :
    Calls Try.prog 14 #[.slice A N c] w fun e w' => (∃ v, e = .returned v) ∧ Below B w w' := by
  have HR0 := Lib.hid (rest_start h hN)
  have HOF := Lib.hid h.off
  have HXL : Hid (xs.length = N) := h.len.trans hN
  have HSX : Hid (∀ j (hj : j < xs.length), xs[j].s.rs.length ≤ 1000000) := by
    show ∀ j _, _
    intro j hj
    refine hs _ ?_
    rw [← h.map]
    exact List.mem_map.2 ⟨xs[j], List.getElem_mem hj, rfl⟩
  clear h hN hs
  go_enter Try.func14, Try.ntmps14
  go_wp2_with fail
  go_loopw [2] (fun i wr => ∃ k : Nat, k ≤ N ∧ i = .int .i64 (k : Int) ∧ Rest wr B (.slice A N c) N xs k ∧ Below B w wr) (fun i _ => N - (RowKit.intOf i).toNat)
  case atStart => exact ⟨0, Nat.zero_le _, rfl, HR0.out, Below.refl _ _⟩
  case round =>
    obtain ⟨k, hk, rfl, hrest, hb⟩ := hrel
    have HR := Lib.hid hrest
    have HB := Lib.hid hb
    clear HR0
    by_cases hlt : k < N
    · have hkx : k < xs.length := by rw [HXL.out]; exact hlt
      have hBr : B ≤ wr.heap.size := Nat.le_trans hB hb.size
      obtain ⟨ys, hrow, hys⟩ := hrest.row
      have hgx : ∃ g, A = some ⟨g, 0, none⟩ ∧ B ≤ g := by
        rcases hrow.2 with ⟨_, h0⟩ | ⟨g, cap, cur, hv, hg, _⟩
        · omega
        · injection hv with h1
          exact ⟨g, h1, hg⟩
      obtain ⟨g, rfl, hgB⟩ := hgx
      have hy1 := hys k hkx (Nat.le_refl _)
      have hown := hrest.own k hkx (Nat.le_refl _)
      have HNX := Lib.hid (fun w1 a0 a1 (hg : wr.grownBy w1 xs[k].v.ownBlock) => rest_next (a0 := a0) (a1 := a1) HR.out hkx HOF.out hg)
      have hsx := HSX.out k hkx
      have d1 : wr.cell? ⟨g, k * 2 + 1, none⟩ = some xs[k].v := (hrow.cellAt (k * 2 + 1) (by omega)).trans hy1
      unfold Sx.v at d1 hown HNX
      obtain ⟨M, hM⟩ : ∃ M, xs[k].s.rs.length = M := ⟨_, rfl⟩
      rw [hM] at d1 hown HNX hsx
      generalize xs[k].A = A1 at d1 hown HNX
      generalize xs[k].c = c1 at d1 hown HNX
      have HSP := Lib.hid (SpoilG_is B M c1 A1 _ wr hBr hsx hown)
      have HRW := Lib.hid (fun w1 (hg : wr.grownBy w1 (Value.slice A1 M c1).ownBlock) => rows_apart hrow hown (fun e => seg_not_rec e.symm) hg)
      have HBG := Lib.hid (fun w1 (hg : wr.grownBy w1 (Value.slice A1 M c1).ownBlock) => HB.out.trans (below_grown hBr hown hg))
      have hkI : (k : Int) < (N : Int) := by omega
      clear hrow hys hy1 hown hsx hM HR HB hrest hb hkx
      go_wp2_with fail
      refine HSP.out.mono ?_
      rintro e w1 ⟨⟨v0, rfl⟩, hg⟩
      have hrw1 := HRW.out w1 hg
      have hcell : ∀ j, j < N * 2 → ∃ u, w1.cell? ⟨g, j, none⟩ = some u := fun j hj => by
        refine ⟨ys[j]'(by rw [hrw1.1]; exact hj), ?_⟩
        rw [hrw1.cellAt j hj]
        exact List.getElem?_eq_getElem _
      obtain ⟨u0, c0⟩ := hcell (k * 2) (by omega)
      obtain ⟨u1, c1'⟩ := hcell (k * 2 + 1) (by omega)
      have f0 := hrw1.frozenAt (k * 2)
      have f1 := hrw1.frozenAt (k * 2 + 1)
      have HN2 := Lib.hid (HNX.out w1 (.int .i64 (-9)) (.slice none 0 0) hg)
      have HB2 : Hid (Below B w ((w1.setCell ⟨g, k * 2, none⟩ (.int .i64 (-9))).setCell ⟨g, k * 2 + 1, none⟩ (.slice none 0 0))) := ((HBG.out w1 hg).setCell (p := ⟨g, k * 2, none⟩) hgB _).setCell (p := ⟨g, k * 2 + 1, none⟩) hgB _
      clear hcell hrw1 hg HNX HBG HRW HSP d1
      go_wp2_with fail
      go_roundw
      case rel => exact ⟨k + 1, hlt, by go_num, HN2.out, HB2.out⟩
      case measure => simp [RowKit.intOf]; omega
    · obtain rfl : k = N := by omega
      clear hrest hb
      go_wp2_with fail
      exact bodyPost_end (v := .tuple #[]) (by simp [results, Try.results14]) rfl ⟨⟨_, rfl⟩, HB.out⟩
end Go.Proofs.Ythdefnfpjbpbkaa.Kpd
/- FoldTells, by its walk: what any segments are with the last of each key alone, and which the last ones are, is the document's, or refused. -/
namespace Go.Proofs.Ythdefnfpjbpbkaa.Kpd
open Go.RowKit Go.Lib Rcd

set_option maxRecDepth 100000 in
set_option maxHeartbeats 16000000 in
theorem FoldTells_any (A : Option Addr) (n c : Nat) (w : World) (hA : Asks w A n) : Calls Try.prog 3 #[.slice A n c] w fun e w' => e = .returned (.bool true) ∧ Below w.heap.size w w' := by
  have HAS := Lib.hid hA
  clear hA
  go_enter Try.func3, Try.ntmps3
  go_wp2_with fail
  go_loopw [3] (fun i wr => ∃ k : Nat, k ≤ n ∧ k ≤ 8 ∧ i = .int .i64 (k : Int) ∧ Below w.heap.size w wr) (fun i _ => 8 - (RowKit.intOf i).toNat)
  case atStart => exact ⟨0, Nat.zero_le _, Nat.zero_le _, rfl, Below.refl _ _⟩
  case round =>
    obtain ⟨k, hkn, hk8, rfl, hbl⟩ := hrel
    have HB := Lib.hid hbl
    clear hbl
    by_cases hlt : k < n
    · have e1 : (k : Int) < (n : Int) := by omega
      by_cases hlt8 : k < 8
      · have e2 : (k : Int) < 8 := by omega
        obtain ⟨b, off, rfl, hall⟩ : ∃ b off, A = some ⟨b, off, none⟩ ∧ ∀ i, i < n → ∃ l r now A' c', AskAt w w.heap.size b (off + i * 7) l r now A' c' := by
          rcases HAS.out with h0 | h
          · omega
          · exact h
        obtain ⟨l, r, now, A', c', hask⟩ := hall k hlt
        have hask2 := hask.below HB.out
        have hld := load_ask_at hask2
        have HL0 := Lib.hid hask.hA
        have hcap' := hask.cap
        have hlen' := hask.len
        have HLM := Lib.hid hask.lim
        clear hall hask hask2
        obtain ⟨N, hN⟩ : ∃ N, l.length = N := ⟨_, rfl⟩
        rw [hN] at hld hcap' hlen'
        obtain ⟨sb, by_, ag, co, gr⟩ := r
        obtain ⟨R3, hR3⟩ : ∃ R3, askB l ⟨sb, by_, ag, co, gr⟩ now = R3 := ⟨_, rfl⟩
        obtain ⟨X, hX⟩ : ∃ X, heavyB l = X := ⟨_, rfl⟩
        have HHV := Lib.hid (fun W (hb : Below w.heap.size w W) => Heavy_is l ⟨sb, by_, ag, co, gr⟩ now N A' c' w.heap.size X W hN (by omega) hb.size (HL0.out.below hb) hX)
        have HMAY := Lib.hid (fun W (hb : Below w.heap.size w W) (hbig : (recsOf l).length ≤ 1000000) => May_is l ⟨sb, by_, ag, co, gr⟩ now N A' c' w.heap.size R3 W hN (by omega) hcap' hbig hb.size (HL0.out.below hb) hR3)
        unfold aarr at hld HHV HMAY
        dsimp only at hld HHV HMAY
        have HR3 := Lib.hid hR3
        have HX := Lib.hid hX
        have HN := Lib.hid hN
        have HCAP := Lib.hid (And.intro hcap' hlen')
        clear hR3 hX hN hcap' hlen'
        obtain ⟨p, W4, hg9, hW4, hbn, hbx, hbw⟩ := any_box HB.out 27 azero #[.slice A' N c', .int .i64 sb, .int .i64 by_, .int .i64 ag, .bool co, .int .i64 gr, .int .i64 now]
        have HBN := Lib.hid hbn
        have R5 := Lib.hid hbx
        unfold azero at hW4
        have HW4 := Lib.hid hW4
        clear hbn hbx hbw hW4 HB
        go_upto_region 5 with (first | (refine wpList_load_any (by rfl) 27 (.tmp 28) rfl b (off + k * 7) rfl _ hld ?_; simp only [Act.put]) | (rw [HW4.out]; refine wpList_store_whole rfl 27 (.tmp 4) (.tmp 29) rfl p _ rfl rfl azero HBN.out info_ask rfl (by simp [Value.oneCell']) ?_; simp only [Act.put]))
        clear HW4 HBN hg9 hld
        generalize World.setRow _ _ _ = w5 at R5 ⊢
        have hld := load_ask R5.out.out.1 rfl
        go_wp2_with (refine wpList_load_any (by rfl) 27 (.tmp 4) rfl p 0 rfl _ hld ?_; simp only [Act.put])
        refine (HHV.out _ R5.out.out.2).mono ?_
        rintro e w6 ⟨rfl, hb6⟩
        have R6 := Lib.hid (R5.out.below hb6)
        clear R5 hb6 hld HHV
        cases X with
        | true =>
          go_wp2_with fail
          go_ret
          exact ⟨rfl, R6.out.out.2⟩
        | false =>
          obtain ⟨hn250, hn8⟩ := heavy_no HX.out HLM.out
          rw [HN.out] at hn250
          have HBIG := Lib.hid (show (recsOf l).length ≤ 1000000 by omega)
          obtain ⟨R1, hR1⟩ : ∃ R1, rowB l = R1 := ⟨_, rfl⟩
          obtain ⟨KL, E2, hLI⟩ := last_ex l
          obtain ⟨F, hF⟩ : ∃ F, KL.length = F := ⟨_, rfl⟩
          have hFb : F ≤ 8000 := by
            rw [← hF]
            rcases hLI with ⟨_, h2, _⟩ | ⟨_, _, h2⟩
            · rw [h2]; exact Nat.zero_le _
            · rw [h2]
              exact Nat.le_trans (lastsL_len _) hn8
          have HLAS := Lib.hid (fun W A2 c2 B (hc : N ≤ c2) (hB : B ≤ W.heap.size) (h : SegsAt W B A2 l) => Lasts_is l KL N F A2 c2 B E2 W HN.out (by omega) hc hB h hF hLI)
          have HROW := Lib.hid (fun W (hb : Below w.heap.size w W) => RRow_is l N A' c' w.heap.size R1 W HN.out (by omega) HCAP.out.1 HBIG.out hb.size (HL0.out.below hb) hR1)
          have HRLA := Lib.hid (fun W (hb : Below w.heap.size w W) F2 (hF2 : (lastsL (recsOf l)).length = F2) => RLasts_is l N (recsOf l).length F2 A' c' w.heap.size W HN.out (by omega) rfl hn8 hb.size (HL0.out.below hb) hF2)
          have HER := Lib.hid (fun W A2 A3 c2 c3 (h : RecsAt W W.heap.size A2 KL) (h' : RecsAt W W.heap.size A3 KL) => EqRecs_same KL A2 A3 c2 c3 W.heap.size W.heap.size W (by rw [hF]; omega) h h')
          rw [hF] at HER
          have HLI := Lib.hid hLI
          have HF := Lib.hid hF
          have HR1 := Lib.hid hR1
          clear hn8 HX HLM hLI hF hR1
          have HCS := Lib.hid (RCopySegs_is l N A' c' w.heap.size w6 HN.out (by omega) R6.out.out.2.size (HL0.out.below R6.out.out.2))
          have d0 : w6.cell? ⟨p, 0, none⟩ = some (.slice A' N c') := R6.out.cell 0
          go_wp2_with fail
          refine HCS.out.mono ?_
          rintro e w7 ⟨Ai, ci, xi, rfl, hoi, hb7⟩
          have HI7 := Lib.hid (SegsAt.of_own hoi)
          have hri := hoi.row
          rw [HN.out] at hri
          have HCI := Lib.hid (row_cap hri)
          have R7 := Lib.hid (R6.out.below hb7)
          clear hb7 hoi hri R6 HCS d0
          go_wp2_with fail
          cases R3 with
          | false =>
            have HSAY : Hid (∀ co', FoldIs l ⟨sb, by_, ag, co', gr⟩ now [] 1) := by
              show ∀ co', _
              intro co'
              exact .inl ⟨rfl, rfl, HR3.out⟩
            have HFO := Lib.hid (fun co' W A2 c2 B (hc : N ≤ c2) (hB : B ≤ W.heap.size) (h : SegsAt W B A2 l) => Fold_is l [] ⟨sb, by_, ag, co', gr⟩ now N 0 A2 c2 B 1 W HN.out (by omega) hc hB h rfl (HSAY.out co'))
            unfold ruagg ruarr at HFO
            dsimp only at HFO
            clear HSAY HR3
            go_loopw [6] (fun i wr => (i = .int .i64 0 ∨ i = .int .i64 1 ∨ i = .int .i64 2) ∧ Below w7.heap.size w7 wr) (fun i _ => 2 - (RowKit.intOf i).toNat)
            case atStart => exact ⟨.inl rfl, Below.refl _ _⟩
            case round =>
              obtain ⟨hi, hbl⟩ := hrel
              obtain ⟨V, hV⟩ : ∃ V, V = wr := ⟨_, rfl⟩
              rw [← hV] at hbl ⊢
              clear hV
              have BV := Lib.hid hbl
              have RV := Lib.hid (R7.out.below hbl)
              clear hbl
              rcases hi with rfl | rfl | rfl
              · have hlr := RBox.loadRu RV.out
                obtain ⟨f, W4, hf, hW4, hbn, hbx, hbw⟩ := any_box (Below.refl V.heap.size V) 25 (ruarr 0 0 0 false 0) (ruarr sb by_ ag co gr)
                have HBN := Lib.hid hbn
                have F8 := Lib.hid hbx
                have HF7 : Hid (V.heap.size ≤ f) := Nat.le_of_eq hf
                unfold ruarr at hW4 F8
                have HW4 := Lib.hid hW4
                clear hbn hbx hbw hW4
                go_upto_region 12 with (first | (refine wpList_load_any (by rfl) 25 (.tmp 39) rfl p 1 rfl _ hlr ?_; simp only [Act.put]) | (rw [HW4.out]; refine wpList_store_whole rfl 25 (.tmp 7) (.tmp 40) rfl f _ rfl rfl _ HBN.out info_ru rfl (by simp [Value.oneCell']) ?_; simp only [Act.put]))
                clear HW4 HBN hf hlr
                generalize World.setRow _ _ _ = w8 at F8 ⊢
                have c3 : w8.cell? ⟨f, 3, none⟩ = some (.bool co) := F8.out.cell 3
                have z3 := F8.out.out.1.frozen 3
                have F9 : Hid (RBox V f #[.int .i64 sb, .int .i64 by_, .int .i64 ag, .bool true, .int .i64 gr] (w8.setCell ⟨f, 3, none⟩ (.bool true))) := kbox_put F8.out HF7.out 3 (.bool true)
                clear F8
                go_upto_region 13 with fail
                clear c3 z3
                generalize World.setCell _ _ _ = w9 at F9 ⊢
                have R9 := Lib.hid (RV.out.below F9.out.out.2)
                have B9 := Lib.hid (bel_step BV.out F9.out.out.2)
                clear HF7 BV RV
                have hlf := load_ru F9.out.out.1 rfl
                have d6 : w9.cell? ⟨p, 6, none⟩ = some (.int .i64 now) := R9.out.cell 6
                have HC1 := Lib.hid (HFO.out true w9 Ai ci w7.heap.size HCI.out B9.out.size (HI7.out.below B9.out))
                go_wp2_with (refine wpList_load_any (by rfl) 25 (.tmp 7) rfl f 0 rfl _ hlf ?_; simp only [Act.put])
                refine HC1.out.mono ?_
                rintro e w10 ⟨Ak, ck, xk, rfl, hok, hb10⟩
                have F10 := Lib.hid (F9.out.below hb10)
                have R10 := Lib.hid (R9.out.below hb10)
                have O10 := Lib.hid hok
                have S10 := Lib.hid hb10
                clear hok hb10 d6 hlf HC1 F9 R9
                have hld := load_ask R10.out.out.1 rfl
                have HM1 := Lib.hid (HMAY.out w10 R10.out.out.2 HBIG.out)
                go_wp2_with (refine wpList_load_any (by rfl) 27 (.tmp 4) rfl p 0 rfl _ hld ?_; simp only [Act.put])
                refine HM1.out.mono ?_
                rintro e w11 ⟨rfl, hb11⟩
                have F11 := Lib.hid (F10.out.below hb11)
                have R11 := Lib.hid (R10.out.below hb11)
                have O11 := Lib.hid (O10.out.below hb11)
                have S11 := Lib.hid (bel_step S10.out hb11)
                clear hb11 HM1 F10 R10 O10 S10 hld
                (try dsimp only)
                have HE := Lib.hid (EqSegs_same [] 0 Ak none ck 0 w11.heap.size w11.heap.size w11 rfl (by omega) (Nat.le_refl _) (Nat.le_refl _) (.inl rfl) (.inl rfl))
                go_wp2_with (go_at_call 12; refine (fnum_is _ _).mono ?_; rintro e w' ⟨rfl, rfl⟩)
                refine HE.out.mono ?_
                rintro e w13 ⟨rfl, hb13⟩
                have O13 := Lib.hid (O11.out.below hb13)
                have S13 := Lib.hid (bel_step S11.out hb13)
                have HSP := Lib.hid (SpoilS_is [] xk w9.heap.size 0 ck Ak w13 S13.out.size rfl (by omega) (fun s hs => by cases hs) O13.out)
                clear hb13 HE O11 S11 R11 F11
                go_wp2_with fail
                refine HSP.out.mono ?_
                rintro e w14 ⟨⟨v0, rfl⟩, hb14⟩
                have B14 := Lib.hid (bel_step B9.out (S13.out.trans hb14))
                clear hb14 HSP O13 S13 B9
                go_wp2_with fail
                go_roundw
                case rel => exact ⟨.inr (.inl rfl), B14.out⟩
                case measure => simp [RowKit.intOf]
              · have hlr := RBox.loadRu RV.out
                obtain ⟨f, W4, hf, hW4, hbn, hbx, hbw⟩ := any_box (Below.refl V.heap.size V) 25 (ruarr 0 0 0 false 0) (ruarr sb by_ ag co gr)
                have HBN := Lib.hid hbn
                have F8 := Lib.hid hbx
                have HF7 : Hid (V.heap.size ≤ f) := Nat.le_of_eq hf
                unfold ruarr at hW4 F8
                have HW4 := Lib.hid hW4
                clear hbn hbx hbw hW4
                go_upto_region 12 with (first | (refine wpList_load_any (by rfl) 25 (.tmp 39) rfl p 1 rfl _ hlr ?_; simp only [Act.put]) | (rw [HW4.out]; refine wpList_store_whole rfl 25 (.tmp 7) (.tmp 40) rfl f _ rfl rfl _ HBN.out info_ru rfl (by simp [Value.oneCell']) ?_; simp only [Act.put]))
                clear HW4 HBN hf hlr
                generalize World.setRow _ _ _ = w8 at F8 ⊢
                have c3 : w8.cell? ⟨f, 3, none⟩ = some (.bool co) := F8.out.cell 3
                have z3 := F8.out.out.1.frozen 3
                have F9 : Hid (RBox V f #[.int .i64 sb, .int .i64 by_, .int .i64 ag, .bool co, .int .i64 gr] (w8.setCell ⟨f, 3, none⟩ (.bool co))) := kbox_put F8.out HF7.out 3 (.bool co)
                clear F8
                go_upto_region 13 with fail
                clear c3 z3
                generalize World.setCell _ _ _ = w9 at F9 ⊢
                have R9 := Lib.hid (RV.out.below F9.out.out.2)
                have B9 := Lib.hid (bel_step BV.out F9.out.out.2)
                clear HF7 BV RV
                have hlf := load_ru F9.out.out.1 rfl
                have d6 : w9.cell? ⟨p, 6, none⟩ = some (.int .i64 now) := R9.out.cell 6
                have HC1 := Lib.hid (HFO.out co w9 Ai ci w7.heap.size HCI.out B9.out.size (HI7.out.below B9.out))
                go_wp2_with (refine wpList_load_any (by rfl) 25 (.tmp 7) rfl f 0 rfl _ hlf ?_; simp only [Act.put])
                refine HC1.out.mono ?_
                rintro e w10 ⟨Ak, ck, xk, rfl, hok, hb10⟩
                have F10 := Lib.hid (F9.out.below hb10)
                have R10 := Lib.hid (R9.out.below hb10)
                have O10 := Lib.hid hok
                have S10 := Lib.hid hb10
                clear hok hb10 d6 hlf HC1 F9 R9
                have hld := load_ask R10.out.out.1 rfl
                have HM1 := Lib.hid (HMAY.out w10 R10.out.out.2 HBIG.out)
                go_wp2_with (refine wpList_load_any (by rfl) 27 (.tmp 4) rfl p 0 rfl _ hld ?_; simp only [Act.put])
                refine HM1.out.mono ?_
                rintro e w11 ⟨rfl, hb11⟩
                have F11 := Lib.hid (F10.out.below hb11)
                have R11 := Lib.hid (R10.out.below hb11)
                have O11 := Lib.hid (O10.out.below hb11)
                have S11 := Lib.hid (bel_step S10.out hb11)
                clear hb11 HM1 F10 R10 O10 S10 hld
                (try dsimp only)
                have HE := Lib.hid (EqSegs_same [] 0 Ak none ck 0 w11.heap.size w11.heap.size w11 rfl (by omega) (Nat.le_refl _) (Nat.le_refl _) (.inl rfl) (.inl rfl))
                go_wp2_with (go_at_call 12; refine (fnum_is _ _).mono ?_; rintro e w' ⟨rfl, rfl⟩)
                refine HE.out.mono ?_
                rintro e w13 ⟨rfl, hb13⟩
                have O13 := Lib.hid (O11.out.below hb13)
                have S13 := Lib.hid (bel_step S11.out hb13)
                have HSP := Lib.hid (SpoilS_is [] xk w9.heap.size 0 ck Ak w13 S13.out.size rfl (by omega) (fun s hs => by cases hs) O13.out)
                clear hb13 HE O11 S11 R11 F11
                go_wp2_with fail
                refine HSP.out.mono ?_
                rintro e w14 ⟨⟨v0, rfl⟩, hb14⟩
                have B14 := Lib.hid (bel_step B9.out (S13.out.trans hb14))
                clear hb14 HSP O13 S13 B9
                go_wp2_with fail
                go_roundw
                case rel => exact ⟨.inr (.inr rfl), B14.out⟩
                case measure => simp [RowKit.intOf]
              · have HC3 := Lib.hid (HLAS.out V Ai ci w7.heap.size HCI.out BV.out.size (HI7.out.below BV.out))
                go_wp2_with fail
                refine HC3.out.mono ?_
                rintro e w8 ⟨Aa, ca, rfl, hoa, hb8⟩
                have R8 := Lib.hid (RV.out.below hb8)
                have B8 := Lib.hid (bel_step BV.out hb8)
                have La8 : Hid (RecsAt w8 w8.heap.size Aa KL) := Lib.hid (.of_own (by rw [HF.out]; exact hoa))
                clear hoa hb8 HC3 BV RV
                have d0 : w8.cell? ⟨p, 0, none⟩ = some (.slice A' N c') := R8.out.cell 0
                have HC4 := Lib.hid (HROW.out w8 R8.out.out.2)
                go_wp2_with fail
                refine HC4.out.mono ?_
                rintro e w9 ⟨rfl, hb9⟩
                have R9 := Lib.hid (R8.out.below hb9)
                have B9 := Lib.hid (bel_step B8.out hb9)
                have La9 := Lib.hid (La8.out.on hb9)
                clear hb9 HC4 R8 B8 La8 d0
                cases R1 with
                | true =>
                  obtain ⟨hE2, hKL⟩ : E2 = 0 ∧ KL = lastsL (recsOf l) := by
                    rcases HLI.out with ⟨_, _, h⟩ | ⟨h1, _, h3⟩
                    · rw [HR1.out] at h; cases h
                    · exact ⟨h1, h3⟩
                  subst hE2
                  have d0 : w9.cell? ⟨p, 0, none⟩ = some (.slice A' N c') := R9.out.cell 0
                  have hc5 := HRLA.out w9 R9.out.out.2 F (by rw [← hKL]; exact HF.out)
                  rw [← hKL] at hc5
                  have HC5 := Lib.hid hc5
                  clear hc5 hKL
                  go_wp2_with fail
                  refine HC5.out.mono ?_
                  rintro e w10 ⟨Ab, cb, rfl, hob, hb10⟩
                  have R10 := Lib.hid (R9.out.below hb10)
                  have B10 := Lib.hid (bel_step B9.out hb10)
                  have La10 := Lib.hid (La9.out.on hb10)
                  have Lb10 : Hid (RecsAt w10 w10.heap.size Ab KL) := Lib.hid (.of_own (by rw [HF.out]; exact hob))
                  clear hob hb10 HC5 R9 B9 La9 d0
                  have HC6 := Lib.hid (HER.out w10 Aa Ab ca cb La10.out Lb10.out)
                  go_wp2_with (go_at_call 12; refine (fnum_is _ _).mono ?_; rintro e w' ⟨rfl, rfl⟩)
                  refine HC6.out.mono ?_
                  rintro e w11 ⟨rfl, hb11⟩
                  have R11 := Lib.hid (R10.out.below hb11)
                  have B11 := Lib.hid (bel_step B10.out hb11)
                  clear hb11 HC6 R10 B10 La10 Lb10
                  have d0 : w11.cell? ⟨p, 0, none⟩ = some (.slice A' N c') := R11.out.cell 0
                  have HE := Lib.hid (EqSegs_same l N Ai A' ci c' w7.heap.size w.heap.size w11 HN.out (by omega) B11.out.size R11.out.out.2.size (HI7.out.below B11.out) (HL0.out.below R11.out.out.2))
                  go_wp2_with fail
                  refine HE.out.mono ?_
                  rintro e w12 ⟨rfl, hb12⟩
                  have R12 := Lib.hid (R11.out.below hb12)
                  clear hb12 HE R11 B11 d0
                  go_wp2_with fail
                  go_roundw
                  case rel => exact ⟨k + 1, hlt, hlt8, by go_num, R12.out.out.2⟩
                  case measure => simp [RowKit.intOf]; omega
                | false =>
                  obtain ⟨hE2, hKL⟩ : E2 = 1 ∧ KL = [] := by
                    rcases HLI.out with ⟨h1, h2, _⟩ | ⟨_, h, _⟩
                    · exact ⟨h1, h2⟩
                    · rw [HR1.out] at h; cases h
                  subst hE2
                  subst hKL
                  obtain rfl : F = 0 := by rw [← HF.out]; rfl
                  have HC6 := Lib.hid (HER.out w9 Aa none ca 0 (.inl rfl) (.inl rfl))
                  go_wp2_with (go_at_call 12; refine (fnum_is _ _).mono ?_; rintro e w' ⟨rfl, rfl⟩)
                  refine HC6.out.mono ?_
                  rintro e w11 ⟨rfl, hb11⟩
                  have R11 := Lib.hid (R9.out.below hb11)
                  have B11 := Lib.hid (bel_step B9.out hb11)
                  clear hb11 HC6 R9 B9 La9
                  have d0 : w11.cell? ⟨p, 0, none⟩ = some (.slice A' N c') := R11.out.cell 0
                  have HE := Lib.hid (EqSegs_same l N Ai A' ci c' w7.heap.size w.heap.size w11 HN.out (by omega) B11.out.size R11.out.out.2.size (HI7.out.below B11.out) (HL0.out.below R11.out.out.2))
                  go_wp2_with fail
                  refine HE.out.mono ?_
                  rintro e w12 ⟨rfl, hb12⟩
                  have R12 := Lib.hid (R11.out.below hb12)
                  clear hb12 HE R11 B11 d0
                  go_wp2_with fail
                  go_roundw
                  case rel => exact ⟨k + 1, hlt, hlt8, by go_num, R12.out.out.2⟩
                  case measure => simp [RowKit.intOf]; omega
          | true =>
            obtain ⟨a1, a2, a3⟩ := ask_parts HR3.out
            obtain ⟨l0, u, hl⟩ : ∃ l0 u, l = l0 ++ [u] := by
              rcases List.eq_nil_or_concat l with h | ⟨l0, u, h⟩
              · subst h
                exact absurd (row_iff.1 a1).1.1 (by simp)
              · exact ⟨l0, u, by rw [h]; simp⟩
            subst hl
            obtain ⟨n0, hn0⟩ : ∃ n0, l0.length = n0 := ⟨_, rfl⟩
            have hnN : n0 + 1 = N := by rw [← HN.out, List.length_append, hn0]; rfl
            have HFO := Lib.hid (fun co' L (hL : (foldR ⟨sb, by_, ag, co', gr⟩ now l0 u).length = L) W A2 c2 B (hc : N ≤ c2) (hB : B ≤ W.heap.size) (h : SegsAt W B A2 (l0 ++ [u])) => Fold_is (l0 ++ [u]) (foldR ⟨sb, by_, ag, co', gr⟩ now l0 u) ⟨sb, by_, ag, co', gr⟩ now N L A2 c2 B 0 W HN.out (by omega) hc hB h hL (fold_said co' HR3.out))
            have HRF := Lib.hid (fun co' L (hL : (foldR ⟨sb, by_, ag, co', gr⟩ now l0 u).length = L) W (hb : Below w.heap.size w W) => RFold_is l0 u ⟨sb, by_, ag, co', gr⟩ now n0 N L A' c' w.heap.size W hn0 hnN hb.size (HL0.out.below hb) a1 a2 hL)
            unfold ruagg ruarr at HFO HRF
            dsimp only at HFO HRF
            have HKB : Hid (∀ co', (foldR ⟨sb, by_, ag, co', gr⟩ now l0 u).length ≤ 201 ∧ ∀ s ∈ foldR ⟨sb, by_, ag, co', gr⟩ now l0 u, s.rs.length ≤ 1000000) := by
              show ∀ co', _
              intro co'
              have h1 := row_pairs.1 (foldR_row (r := ⟨sb, by_, ag, co', gr⟩) (now := now) a1)
              exact ⟨h1.1.2.1, fun s hs => Nat.le_trans (seg_len (h1.2.1 s hs)) (by omega)⟩
            have HR1T : Hid (R1 = true) := by show _ = _; rw [← HR1.out]; exact a1
            clear a1 a2 a3 HR3 hn0 hnN
            go_loopw [6] (fun i wr => (i = .int .i64 0 ∨ i = .int .i64 1 ∨ i = .int .i64 2) ∧ Below w7.heap.size w7 wr) (fun i _ => 2 - (RowKit.intOf i).toNat)
            case atStart => exact ⟨.inl rfl, Below.refl _ _⟩
            case round =>
              obtain ⟨hi, hbl⟩ := hrel
              obtain ⟨V, hV⟩ : ∃ V, V = wr := ⟨_, rfl⟩
              rw [← hV] at hbl ⊢
              clear hV
              have BV := Lib.hid hbl
              have RV := Lib.hid (R7.out.below hbl)
              clear hbl
              rcases hi with rfl | rfl | rfl
              · have hlr := RBox.loadRu RV.out
                obtain ⟨f, W4, hf, hW4, hbn, hbx, hbw⟩ := any_box (Below.refl V.heap.size V) 25 (ruarr 0 0 0 false 0) (ruarr sb by_ ag co gr)
                have HBN := Lib.hid hbn
                have F8 := Lib.hid hbx
                have HF7 : Hid (V.heap.size ≤ f) := Nat.le_of_eq hf
                unfold ruarr at hW4 F8
                have HW4 := Lib.hid hW4
                clear hbn hbx hbw hW4
                go_upto_region 12 with (first | (refine wpList_load_any (by rfl) 25 (.tmp 39) rfl p 1 rfl _ hlr ?_; simp only [Act.put]) | (rw [HW4.out]; refine wpList_store_whole rfl 25 (.tmp 7) (.tmp 40) rfl f _ rfl rfl _ HBN.out info_ru rfl (by simp [Value.oneCell']) ?_; simp only [Act.put]))
                clear HW4 HBN hf hlr
                generalize World.setRow _ _ _ = w8 at F8 ⊢
                have c3 : w8.cell? ⟨f, 3, none⟩ = some (.bool co) := F8.out.cell 3
                have z3 := F8.out.out.1.frozen 3
                have F9 : Hid (RBox V f #[.int .i64 sb, .int .i64 by_, .int .i64 ag, .bool true, .int .i64 gr] (w8.setCell ⟨f, 3, none⟩ (.bool true))) := kbox_put F8.out HF7.out 3 (.bool true)
                clear F8
                go_upto_region 13 with fail
                clear c3 z3
                generalize World.setCell _ _ _ = w9 at F9 ⊢
                have R9 := Lib.hid (RV.out.below F9.out.out.2)
                have B9 := Lib.hid (bel_step BV.out F9.out.out.2)
                clear HF7 BV RV
                have hlf := load_ru F9.out.out.1 rfl
                have d6 : w9.cell? ⟨p, 6, none⟩ = some (.int .i64 now) := R9.out.cell 6
                obtain ⟨K, hK⟩ : ∃ K, foldR ⟨sb, by_, ag, true, gr⟩ now l0 u = K := ⟨_, rfl⟩
                obtain ⟨L, hL⟩ : ∃ L, K.length = L := ⟨_, rfl⟩
                have hkb := HKB.out true
                have hfo := HFO.out true L (by rw [hK]; exact hL) w9 Ai ci w7.heap.size HCI.out B9.out.size (HI7.out.below B9.out)
                have hrf := HRF.out true L (by rw [hK]; exact hL)
                rw [hK] at hkb hfo hrf
                rw [hL] at hkb
                have HC1 := Lib.hid hfo
                have HRF1 := Lib.hid hrf
                have HKB1 := Lib.hid hkb
                have HLL := Lib.hid hL
                clear hkb hfo hrf hK hL
                go_wp2_with (refine wpList_load_any (by rfl) 25 (.tmp 7) rfl f 0 rfl _ hlf ?_; simp only [Act.put])
                refine HC1.out.mono ?_
                rintro e w10 ⟨Ak, ck, xk, rfl, hok, hb10⟩
                have F10 := Lib.hid (F9.out.below hb10)
                have R10 := Lib.hid (R9.out.below hb10)
                have O10 := Lib.hid hok
                have S10 := Lib.hid hb10
                clear hok hb10 d6 hlf HC1 F9 R9
                have hld := load_ask R10.out.out.1 rfl
                have HM1 := Lib.hid (HMAY.out w10 R10.out.out.2 HBIG.out)
                go_wp2_with (refine wpList_load_any (by rfl) 27 (.tmp 4) rfl p 0 rfl _ hld ?_; simp only [Act.put])
                refine HM1.out.mono ?_
                rintro e w11 ⟨rfl, hb11⟩
                have F11 := Lib.hid (F10.out.below hb11)
                have R11 := Lib.hid (R10.out.below hb11)
                have O11 := Lib.hid (O10.out.below hb11)
                have S11 := Lib.hid (bel_step S10.out hb11)
                clear hb11 HM1 F10 R10 O10 S10 hld
                (try dsimp only)
                have hlf := load_ru F11.out.out.1 rfl
                have d0 : w11.cell? ⟨p, 0, none⟩ = some (.slice A' N c') := R11.out.cell 0
                have d6 : w11.cell? ⟨p, 6, none⟩ = some (.int .i64 now) := R11.out.cell 6
                have HC2 := Lib.hid (HRF1.out w11 R11.out.out.2)
                go_wp2_with (refine wpList_load_any (by rfl) 25 (.tmp 7) rfl f 0 rfl _ hlf ?_; simp only [Act.put])
                refine HC2.out.mono ?_
                rintro e w12 ⟨Aw, cw, xw, rfl, how, hb12⟩
                have O12 := Lib.hid (O11.out.below hb12)
                have S12 := Lib.hid (bel_step S11.out hb12)
                have hLb := HKB1.out.1
                have HE := Lib.hid (EqSegs_same K L Ak Aw ck cw w12.heap.size w12.heap.size w12 HLL.out (by omega) (Nat.le_refl _) (Nat.le_refl _) (.of_own O12.out) (.of_own how))
                clear how hb12 d0 d6 hlf HC2 HRF1 O11 S11 R11 F11
                go_wp2_with (go_at_call 12; refine (fnum_is _ _).mono ?_; rintro e w' ⟨rfl, rfl⟩)
                refine HE.out.mono ?_
                rintro e w13 ⟨rfl, hb13⟩
                have O13 := Lib.hid (O12.out.below hb13)
                have S13 := Lib.hid (bel_step S12.out hb13)
                have HSP := Lib.hid (SpoilS_is K xk w9.heap.size L ck Ak w13 S13.out.size HLL.out (by omega) HKB1.out.2 O13.out)
                clear hb13 HE O12 S12
                go_wp2_with fail
                refine HSP.out.mono ?_
                rintro e w14 ⟨⟨v0, rfl⟩, hb14⟩
                have B14 := Lib.hid (bel_step B9.out (S13.out.trans hb14))
                clear hb14 HSP O13 S13 B9
                go_wp2_with fail
                go_roundw
                case rel => exact ⟨.inr (.inl rfl), B14.out⟩
                case measure => simp [RowKit.intOf]
              · have hlr := RBox.loadRu RV.out
                obtain ⟨f, W4, hf, hW4, hbn, hbx, hbw⟩ := any_box (Below.refl V.heap.size V) 25 (ruarr 0 0 0 false 0) (ruarr sb by_ ag co gr)
                have HBN := Lib.hid hbn
                have F8 := Lib.hid hbx
                have HF7 : Hid (V.heap.size ≤ f) := Nat.le_of_eq hf
                unfold ruarr at hW4 F8
                have HW4 := Lib.hid hW4
                clear hbn hbx hbw hW4
                go_upto_region 12 with (first | (refine wpList_load_any (by rfl) 25 (.tmp 39) rfl p 1 rfl _ hlr ?_; simp only [Act.put]) | (rw [HW4.out]; refine wpList_store_whole rfl 25 (.tmp 7) (.tmp 40) rfl f _ rfl rfl _ HBN.out info_ru rfl (by simp [Value.oneCell']) ?_; simp only [Act.put]))
                clear HW4 HBN hf hlr
                generalize World.setRow _ _ _ = w8 at F8 ⊢
                have c3 : w8.cell? ⟨f, 3, none⟩ = some (.bool co) := F8.out.cell 3
                have z3 := F8.out.out.1.frozen 3
                have F9 : Hid (RBox V f #[.int .i64 sb, .int .i64 by_, .int .i64 ag, .bool co, .int .i64 gr] (w8.setCell ⟨f, 3, none⟩ (.bool co))) := kbox_put F8.out HF7.out 3 (.bool co)
                clear F8
                go_upto_region 13 with fail
                clear c3 z3
                generalize World.setCell _ _ _ = w9 at F9 ⊢
                have R9 := Lib.hid (RV.out.below F9.out.out.2)
                have B9 := Lib.hid (bel_step BV.out F9.out.out.2)
                clear HF7 BV RV
                have hlf := load_ru F9.out.out.1 rfl
                have d6 : w9.cell? ⟨p, 6, none⟩ = some (.int .i64 now) := R9.out.cell 6
                obtain ⟨K, hK⟩ : ∃ K, foldR ⟨sb, by_, ag, co, gr⟩ now l0 u = K := ⟨_, rfl⟩
                obtain ⟨L, hL⟩ : ∃ L, K.length = L := ⟨_, rfl⟩
                have hkb := HKB.out co
                have hfo := HFO.out co L (by rw [hK]; exact hL) w9 Ai ci w7.heap.size HCI.out B9.out.size (HI7.out.below B9.out)
                have hrf := HRF.out co L (by rw [hK]; exact hL)
                rw [hK] at hkb hfo hrf
                rw [hL] at hkb
                have HC1 := Lib.hid hfo
                have HRF1 := Lib.hid hrf
                have HKB1 := Lib.hid hkb
                have HLL := Lib.hid hL
                clear hkb hfo hrf hK hL
                go_wp2_with (refine wpList_load_any (by rfl) 25 (.tmp 7) rfl f 0 rfl _ hlf ?_; simp only [Act.put])
                refine HC1.out.mono ?_
                rintro e w10 ⟨Ak, ck, xk, rfl, hok, hb10⟩
                have F10 := Lib.hid (F9.out.below hb10)
                have R10 := Lib.hid (R9.out.below hb10)
                have O10 := Lib.hid hok
                have S10 := Lib.hid hb10
                clear hok hb10 d6 hlf HC1 F9 R9
                have hld := load_ask R10.out.out.1 rfl
                have HM1 := Lib.hid (HMAY.out w10 R10.out.out.2 HBIG.out)
                go_wp2_with (refine wpList_load_any (by rfl) 27 (.tmp 4) rfl p 0 rfl _ hld ?_; simp only [Act.put])
                refine HM1.out.mono ?_
                rintro e w11 ⟨rfl, hb11⟩
                have F11 := Lib.hid (F10.out.below hb11)
                have R11 := Lib.hid (R10.out.below hb11)
                have O11 := Lib.hid (O10.out.below hb11)
                have S11 := Lib.hid (bel_step S10.out hb11)
                clear hb11 HM1 F10 R10 O10 S10 hld
                (try dsimp only)
                have hlf := load_ru F11.out.out.1 rfl
                have d0 : w11.cell? ⟨p, 0, none⟩ = some (.slice A' N c') := R11.out.cell 0
                have d6 : w11.cell? ⟨p, 6, none⟩ = some (.int .i64 now) := R11.out.cell 6
                have HC2 := Lib.hid (HRF1.out w11 R11.out.out.2)
                go_wp2_with (refine wpList_load_any (by rfl) 25 (.tmp 7) rfl f 0 rfl _ hlf ?_; simp only [Act.put])
                refine HC2.out.mono ?_
                rintro e w12 ⟨Aw, cw, xw, rfl, how, hb12⟩
                have O12 := Lib.hid (O11.out.below hb12)
                have S12 := Lib.hid (bel_step S11.out hb12)
                have hLb := HKB1.out.1
                have HE := Lib.hid (EqSegs_same K L Ak Aw ck cw w12.heap.size w12.heap.size w12 HLL.out (by omega) (Nat.le_refl _) (Nat.le_refl _) (.of_own O12.out) (.of_own how))
                clear how hb12 d0 d6 hlf HC2 HRF1 O11 S11 R11 F11
                go_wp2_with (go_at_call 12; refine (fnum_is _ _).mono ?_; rintro e w' ⟨rfl, rfl⟩)
                refine HE.out.mono ?_
                rintro e w13 ⟨rfl, hb13⟩
                have O13 := Lib.hid (O12.out.below hb13)
                have S13 := Lib.hid (bel_step S12.out hb13)
                have HSP := Lib.hid (SpoilS_is K xk w9.heap.size L ck Ak w13 S13.out.size HLL.out (by omega) HKB1.out.2 O13.out)
                clear hb13 HE O12 S12
                go_wp2_with fail
                refine HSP.out.mono ?_
                rintro e w14 ⟨⟨v0, rfl⟩, hb14⟩
                have B14 := Lib.hid (bel_step B9.out (S13.out.trans hb14))
                clear hb14 HSP O13 S13 B9
                go_wp2_with fail
                go_roundw
                case rel => exact ⟨.inr (.inr rfl), B14.out⟩
                case measure => simp [RowKit.intOf]
              · have HC3 := Lib.hid (HLAS.out V Ai ci w7.heap.size HCI.out BV.out.size (HI7.out.below BV.out))
                go_wp2_with fail
                refine HC3.out.mono ?_
                rintro e w8 ⟨Aa, ca, rfl, hoa, hb8⟩
                have R8 := Lib.hid (RV.out.below hb8)
                have B8 := Lib.hid (bel_step BV.out hb8)
                have La8 : Hid (RecsAt w8 w8.heap.size Aa KL) := Lib.hid (.of_own (by rw [HF.out]; exact hoa))
                clear hoa hb8 HC3 BV RV
                have d0 : w8.cell? ⟨p, 0, none⟩ = some (.slice A' N c') := R8.out.cell 0
                have HC4 := Lib.hid (HROW.out w8 R8.out.out.2)
                go_wp2_with fail
                refine HC4.out.mono ?_
                rintro e w9 ⟨rfl, hb9⟩
                have R9 := Lib.hid (R8.out.below hb9)
                have B9 := Lib.hid (bel_step B8.out hb9)
                have La9 := Lib.hid (La8.out.on hb9)
                clear hb9 HC4 R8 B8 La8 d0
                obtain rfl : R1 = true := HR1T.out
                obtain ⟨hE2, hKL⟩ : E2 = 0 ∧ KL = lastsL (recsOf (l0 ++ [u])) := by
                  rcases HLI.out with ⟨_, _, h⟩ | ⟨h1, _, h3⟩
                  · rw [HR1.out] at h; cases h
                  · exact ⟨h1, h3⟩
                subst hE2
                have d0 : w9.cell? ⟨p, 0, none⟩ = some (.slice A' N c') := R9.out.cell 0
                have hc5 := HRLA.out w9 R9.out.out.2 F (by rw [← hKL]; exact HF.out)
                rw [← hKL] at hc5
                have HC5 := Lib.hid hc5
                clear hc5 hKL
                go_wp2_with fail
                refine HC5.out.mono ?_
                rintro e w10 ⟨Ab, cb, rfl, hob, hb10⟩
                have R10 := Lib.hid (R9.out.below hb10)
                have B10 := Lib.hid (bel_step B9.out hb10)
                have La10 := Lib.hid (La9.out.on hb10)
                have Lb10 : Hid (RecsAt w10 w10.heap.size Ab KL) := Lib.hid (.of_own (by rw [HF.out]; exact hob))
                clear hob hb10 HC5 R9 B9 La9 d0
                have HC6 := Lib.hid (HER.out w10 Aa Ab ca cb La10.out Lb10.out)
                go_wp2_with (go_at_call 12; refine (fnum_is _ _).mono ?_; rintro e w' ⟨rfl, rfl⟩)
                refine HC6.out.mono ?_
                rintro e w11 ⟨rfl, hb11⟩
                have R11 := Lib.hid (R10.out.below hb11)
                have B11 := Lib.hid (bel_step B10.out hb11)
                clear hb11 HC6 R10 B10 La10 Lb10
                have d0 : w11.cell? ⟨p, 0, none⟩ = some (.slice A' N c') := R11.out.cell 0
                have HE := Lib.hid (EqSegs_same (l0 ++ [u]) N Ai A' ci c' w7.heap.size w.heap.size w11 HN.out (by omega) B11.out.size R11.out.out.2.size (HI7.out.below B11.out) (HL0.out.below R11.out.out.2))
                go_wp2_with fail
                refine HE.out.mono ?_
                rintro e w12 ⟨rfl, hb12⟩
                have R12 := Lib.hid (R11.out.below hb12)
                clear hb12 HE R11 B11 d0
                go_wp2_with fail
                go_roundw
                case rel => exact ⟨k + 1, hlt, hlt8, by go_num, R12.out.out.2⟩
                case measure => simp [RowKit.intOf]; omega
      · have e3 : ¬ (k : Int) < 8 := by omega
        have HWK := Lib.hid (fwakes_any wr)
        go_wp2_with fail
        refine HWK.out.mono ?_
        rintro e w1 ⟨rfl, hb1⟩
        have B1 := Lib.hid (bel_step HB.out hb1)
        clear hb1 HB HWK
        go_wp2_with fail
        go_ret
        exact ⟨rfl, B1.out⟩
    · have e3 : ¬ (k : Int) < (n : Int) := by omega
      have HWK := Lib.hid (fwakes_any wr)
      go_wp2_with fail
      refine HWK.out.mono ?_
      rintro e w1 ⟨rfl, hb1⟩
      have B1 := Lib.hid (bel_step HB.out hb1)
      clear hb1 HB HWK
      go_wp2_with fail
      go_ret
      exact ⟨rfl, B1.out⟩
end Go.Proofs.Ythdefnfpjbpbkaa.Kpd
/- For every list of asks: what any segments are with the last of each key alone, and which the last ones are, is the document's, or refused. No condition. -/
namespace Go.Proofs.Ythdefnfpjbpbkaa.foldTells
open Go.ChangeShapes Go.WideShapes Go.ChangeAt Go.RowKit Kpd

set_option maxRecDepth 100000 in
theorem lifted (os : Os) (started : os.Started) (H : Type) (enc : TypeId × Value → H) :
    ReturnsInHanded {} Try.checked os 3 .any (Rows.foldTellsSpec.pre6 enc Try.prog Try.f3 Rows.foldTellsRow.domain false) (Rows.foldTellsSpec.post enc Try.prog Try.f3 false true false false) := by
  refine returnsInHanded_of_change_sized (C := Try.checked) ownKnob_none started (by kernel_rfl) Try.func3
    (ChangeSpec.witness6 (enc := enc) (C := Try.checked) false ⟨#[], #[.slice none 0 0], []⟩ 8 (by kernel_rfl) (by kernel_rfl) (by kernel_rfl) (by kernel_rfl)) ?_
  intro W base args ds gs before hval0 hW _ hsz0 _
  have hval : ∀ (j : Nat) t v, Try.f3.params[j]? = some t → args[j]? = some v → Value.okWide Try.prog W .any base t v := hval0
  have hW' := hW
  obtain ⟨p, q, hA0, hV, rfl, _, _⟩ := hW
  have hA : DataW.TrodAll enc Try.prog W 0 (fun _ => true) true Try.f3.params.toList args.toList ds p := hA0
  rw [Try.params3] at hA hval
  obtain ⟨v0, d0, rfl, rfl, h0⟩ := trodAll_one hA
  obtain ⟨rfl, rfl⟩ := trodVars_none hV
  obtain ⟨a0, n0, c0, rfl⟩ := okWide_slice Try.underlying22 (hval 0 22 v0 rfl rfl)
  have lt0 : ∀ x ∈ p, x.block < W.heap.size := by obtain ⟨m, hm⟩ := h0; exact DataW.trod_lt m _ _ _ hm
  have near : Near 22 d0 := fun n hn => by
    have := List.all_eq_true.1 hsz0 n (DataW.weights_mem_each (j := 0) (t := 22) (d := d0) (by rw [Try.params3]; rfl) rfl n hn)
    simpa using this
  clear hA0 hval0
  refine (FoldTells_any a0 n0 c0 W (asks_near near h0)).mono fun e W' ⟨he, bel⟩ => ?_
  subst he
  exact ⟨_, rfl, _, _, _, [], _, [], hW', trodAll_mk1 (shut_bool Try.underlying4 _), trodAll_mk1 (Below.trod laidOut_true (by kernel_rfl) (of_decide_eq_true (by kernel_rfl)) h0 bel lt0), rfl, bel.frame _, fun h => by cases h⟩

theorem over : Rows.foldTellsRow.holds Try.pinned (OpenSpec.ofChange Rows.foldTellsSpec) :=
  OpenClaim.holds_of_wide 3 Try.f3 rfl rfl rfl rfl rfl rfl rfl ⟨rfl, rfl, rfl, rfl, rfl⟩ rfl rfl rfl rfl rfl (by kernel_rfl) Try.func3 (by kernel_rfl)
    (of_decide_eq_true (by kernel_rfl)) (by unfold Func.isWrapper; rw [if_neg (of_decide_eq_false (by kernel_rfl))]; exact ⟨rfl, rfl⟩)
    (fun os started H enc _ => lifted os started H enc)

theorem proved : Rows.FoldTellsSaid := over
#print axioms proved
end Go.Proofs.Ythdefnfpjbpbkaa.foldTells
