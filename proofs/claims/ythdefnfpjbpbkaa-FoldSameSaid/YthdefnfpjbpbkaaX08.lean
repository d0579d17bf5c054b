/- Texts of the proof, part 8: FdDelFun, FdLastOf, RcClone, KpAskB, KpCopy, KpMuch, RcSize, SgRecSize, SgSize, KpSizeOf. -/
import Derived.Test.YthdefnfpjbpbkaaShelf
import Derived.Test.YthdefnfpjbpbkaaX07
/- Records taken out of a row of the call's own, in place: slices.DeleteFunc. -/
namespace Go.Proofs.Ythdefnfpjbpbkaa.Kpd
open Go.RowKit Go.Lib Go.Maps Rcd

set_option maxRecDepth 100000 in
set_option maxHeartbeats 8000000 in
/-- slices.DeleteFunc. -/
theorem Delete_is (p : Rc → Bool) (rs : List Rc) (N L : Nat) (A : Option Addr) (c B a b d : Nat) (w : World) (hN : rs.length = N) (hm : N ≤ 1000000) (hr : w.ownsRow B 46 6 (.slice A N c) N (flat rs))
    (hP : ∀ W, w.grownBy W (Value.slice A N c).ownBlock → ∀ x ∈ rs, ∀ X, p x = X → Calls Try.prog outI #[ragg x, .pointer (some ⟨a, 0, none⟩), .pointer (some ⟨b, 0, none⟩), .pointer (some ⟨d, 0, none⟩)] W fun e w' => e = .returned (.bool X) ∧ Below W.heap.size W w') (hL : (rs.filter (npF p)).length = L) :
    Calls Try.prog 36 #[.slice A N c, .func (.func outI) #[] #[.pointer (some ⟨a, 0, none⟩), .pointer (some ⟨b, 0, none⟩), .pointer (some ⟨d, 0, none⟩)]] w fun e w' => e = .returned (.slice A L c) ∧ w'.ownsRow B 46 6 (.slice A L c) L (flat (rs.filter (npF p))) ∧ w.grownBy w' (Value.slice A N c).ownBlock := by
  obtain ⟨i0, hi⟩ := ix_ex p rs
  have hrec : RecsAt w w.heap.size A rs := .of_own (c := c) (base := B) (e := 46) (by rw [hN]; exact hr)
  have HI := Lib.hid (Index_is p rs N A c w.heap.size a b d i0 w hN (by omega) (Nat.le_refl _) hrec (fun W hb => hP W ((grown_bel hb).but _)) hi)
  have HN := Lib.hid hN
  have HP := Lib.hid hP
  have HLL := Lib.hid hL
  have HRW := Lib.hid hr
  have hcf : ∀ (args : Array Value) (W : World), (callFunc outI args).run Try.prog W = .ok (.enter outI args) W := fun args W => by go_simp
  clear hP hL hrec
  rcases hi with ⟨rfl, hno⟩ | ⟨k, hk, rfl, hpk, hno⟩
  · have hf : rs.filter (npF p) = rs := by
      rw [List.filter_eq_self]
      intro x hx
      unfold npF
      rw [hno x hx]; rfl
    have hLN : L = N := by rw [← HLL.out, hf, hN]
    subst hLN
    rw [hf]
    clear hno hf hN hr
    go_enter Try.func36, Try.ntmps36
    go_wp2_with fail
    refine HI.out.mono ?_
    rintro e w1 ⟨rfl, hb1⟩
    have HB := Lib.hid hb1
    clear hb1 HI
    go_wp2_with fail
    go_ret
    exact ⟨rfl, own_below HRW.out HB.out, (grown_bel HB.out).but _⟩
  · have hkN : k < N := by rw [← hN]; exact hk
    obtain ⟨g, rfl⟩ : ∃ g, A = some ⟨g, 0, none⟩ := by
      rcases hr.2 with ⟨hv, h0⟩ | ⟨g, cap, cur, hv, _⟩
      · omega
      · injection hv with h1
        exact ⟨g, h1⟩
    obtain ⟨hro, hBg⟩ := RowAt.of_own hN hr
    have hcN : N ≤ c := row_cap hr
    have hst := start_filter hk hpk hno
    have HRO := Lib.hid hro
    have HST := Lib.hid hst
    have HOB : Hid ((Value.slice (some ⟨g, 0, none⟩) N c).ownBlock = some g) := rfl
    rw [HOB.out] at HP
    rw [HOB.out]
    clear hro hst hr hpk hno hN HRW HOB
    go_enter Try.func36, Try.ntmps36
    go_wp2_with fail
    refine HI.out.mono ?_
    rintro e w1 ⟨rfl, hb1⟩
    have HB := Lib.hid hb1
    have HRO1 := Lib.hid (HRO.out.below hb1)
    clear hb1 HI HRO
    have q1 : ((k : Int) == -1) = false := beq_eq_false_iff_ne.2 (by omega)
    go_wp2_with fail
    go_loopw [5, 6] (fun iv jv wr => ∃ (i j : Nat) (ys : List Rc), i < j ∧ j ≤ N ∧ iv = .int .i64 (i : Int) ∧ jv = .int .i64 (j : Int) ∧ ys.length = N ∧ RowAt wr g c ys ∧ w.grownBy wr (some g) ∧ ys.take i = (rs.take j).filter (npF p) ∧ ys.drop j = rs.drop j) (fun _ j _ => N - (RowKit.intOf j).toNat)
    case atStart => exact ⟨k, k + 1, rs, Nat.lt_succ_self _, hkN, rfl, by go_num, HN.out, HRO1.out, (grown_bel HB.out).but _, HST.out.symm, rfl⟩
    case round =>
      obtain ⟨i, j, ys, hij, hjN, rfl, rfl, hyl, hrow, hgr, htk, hdr⟩ := hrel
      have HROW := Lib.hid hrow
      have HGR := Lib.hid hgr
      have HTK := Lib.hid htk
      have HDR := Lib.hid hdr
      have HYL := Lib.hid hyl
      clear hrow hgr htk hdr hyl HRO1 HB HST
      by_cases hlt : j < N
      · have hjr : j < rs.length := by rw [HN.out]; exact hlt
        have hjy : j < ys.length := by rw [HYL.out]; exact hlt
        have hfn := filter_next (p := npF p) hjr
        obtain ⟨X, hX⟩ : ∃ X, p rs[j] = X := ⟨_, rfl⟩
        have hnp : npF p rs[j] = !X := by unfold npF; rw [hX]
        rw [hnp] at hfn
        have HC := Lib.hid (fun W (hb : Below wr.heap.size wr W) => HP.out W (HGR.out.trans ((grown_bel hb).but _)) rs[j] (List.getElem_mem hjr) X hX)
        obtain ⟨b1, o1, hA1, _, hcc⟩ := HROW.out.recs.some_ (by omega)
        injection hA1 with hA1
        injection hA1 with hA1 hA2
        subst hA1 hA2
        obtain ⟨c0, c1, c2, c3, c4, c5⟩ := hcc j hjy
        rw [drop_get HDR.out hjy hjr] at c0 c1 c2 c3 c4 c5
        rw [Nat.zero_add] at c0 c1 c2 c3 c4 c5
        have HS := Lib.hid (fun s => HROW.out.set (a := i) (by omega) s)
        clear hcc hX hnp
        generalize rs[j] = x at c0 c1 c2 c3 c4 c5 hfn HC
        have HFN := Lib.hid hfn
        obtain ⟨xo, xt, xk, xb, xq, xg⟩ := x
        unfold ragg at HC
        dsimp only at c0 c1 c2 c3 c4 c5 HC
        have HSX := Lib.hid (HS.out ⟨xo, xt, xk, xb, xq, xg⟩)
        obtain ⟨ks, hks⟩ : ∃ ks, str xk = ks := ⟨_, rfl⟩
        obtain ⟨bs, hbs⟩ : ∃ bs, str xb = bs := ⟨_, rfl⟩
        have hfc : rcells ⟨xo, xt, xk, xb, xq, xg⟩ = [.int .i64 xo, .int .i64 xt, .string ks, .string bs, .int .i64 xq, .bool xg] := by rw [← hks, ← hbs]; rfl
        have HFC := Lib.hid hfc
        rw [hks] at c2
        rw [hbs] at c3
        rw [hks, hbs] at HC
        have e1 : (j : Int) < (N : Int) := by omega
        obtain ⟨b9, W4, hg9, hW4, hbn, hbx, hbw⟩ := box_new (Below.refl wr.heap.size wr) (rarr xo xt ks bs xq xg)
        have HBN := Lib.hid hbn
        have X6 := Lib.hid hbx
        unfold zcells at hW4
        unfold rarr at X6 HC
        have HW4 := Lib.hid hW4
        clear hbn hbx hbw hW4 hks hbs hfc hfn HS hjr hjy
        go_upto_region 8 with (rw [HW4.out]; refine wpList_store_whole rfl 46 (.tmp 7) (.tmp 25) rfl b9 _ rfl rfl zcells HBN.out info_rec rfl (by simp [Value.oneCell']) ?_; simp only [Act.put])
        clear HW4 HBN c0 c1 c2 c3 c4 c5 hg9
        generalize World.setRow _ _ _ = w6 at X6 ⊢
        have hld := X6.out.load rfl
        go_wp2_with (refine wpList_load_any (by rfl) 46 (.tmp 7) rfl b9 0 rfl _ hld ?_; simp only [Act.put])
        refine (HC.out w6 X6.out.out.2).mono ?_
        rintro e w7 ⟨rfl, hb7⟩
        have X7 := Lib.hid (X6.out.below hb7)
        have G7 := Lib.hid (HGR.out.trans ((grown_bel X7.out.out.2).but (some g)))
        have R7 := Lib.hid (HROW.out.below X7.out.out.2)
        clear hb7 HC X6 hld
        cases X with
        | true =>
          have hf := HFN.out
          have HF2 := Lib.hid (show (rs.take (j + 1)).filter (npF p) = (rs.take j).filter (npF p) from hf)
          clear hf HFN
          go_wp2_with fail
          go_roundw
          case rel => exact ⟨i, j + 1, ys, by omega, hlt, rfl, by go_num, HYL.out, R7.out, G7.out, by rw [HF2.out]; exact HTK.out, drop_next HDR.out⟩
          case measure => simp [RowKit.intOf]; omega
        | false =>
          have hf := HFN.out
          have HF2 := Lib.hid (show (rs.take (j + 1)).filter (npF p) = (rs.take j).filter (npF p) ++ [⟨xo, xt, xk, xb, xq, xg⟩] from hf)
          clear hf HFN
          have hld := X7.out.load rfl
          have hiy : i < ys.length := by rw [HYL.out]; omega
          have hth := R7.out.there (o := i * 6) (n := 6) (by omega)
          have RS := Lib.hid (R7.out.set hiy ⟨xo, xt, xk, xb, xq, xg⟩)
          rw [HFC.out] at RS
          have e2 : (i : Int) < (N : Int) := by omega
          have G8 := Lib.hid (G7.out.trans (setCells_grown g [.int .i64 xo, .int .i64 xt, .string ks, .string bs, .int .i64 xq, .bool xg] (i * 6) w7))
          obtain ⟨w8, hw8⟩ : ∃ w8, w7.setCells g (i * 6) [.int .i64 xo, .int .i64 xt, .string ks, .string bs, .int .i64 xq, .bool xg] = w8 := ⟨_, rfl⟩
          rw [hw8] at G8 RS
          have HW8 := Lib.hid hw8
          clear hw8
          go_upto_region 10 with (first | (refine wpList_load_any (by rfl) 46 (.tmp 7) rfl b9 0 rfl _ hld ?_; simp only [Act.put]) | (refine wpList_store_rec rfl (.tmp 33) (.tmp 32) rfl g (i * 6) xo xt ks bs xq xg rfl rfl hth w8 HW8.out ?_; simp only [Act.put]))
          clear hld hth G7 R7 X7 HW8
          go_wp2_with fail
          go_roundw
          case rel =>
            refine ⟨i + 1, j + 1, _, by omega, hlt, by go_num, by go_num, by rw [List.length_set]; exact HYL.out, RS.out, G8.out, ?_, ?_⟩
            · rw [HF2.out, ← HTK.out, List.take_succ_eq_append_getElem (by rw [List.length_set]; exact hiy), List.getElem_set_self, List.take_set_of_le (Nat.le_refl _)]
            · rw [List.drop_set_of_lt (by omega)]
              exact drop_next HDR.out
          case measure => simp [RowKit.intOf]; omega
      · have hjN2 : j = N := by omega
        have hall : rs.take j = rs := List.take_of_length_le (by rw [HN.out, hjN2]; exact Nat.le_refl _)
        rw [hall] at HTK
        have hiL : i = L := by
          rw [← HLL.out, ← HTK.out, List.length_take, HYL.out]; omega
        have hiN : i < N := by omega
        have hth := HROW.out.there (o := i * 6) (n := (N - i) * 6) (by rw [HYL.out]; omega)
        have hcl := fun ty => clear_recs wr ty g (i * 6) (N - i) (c - i) (by omega) hth
        have hcut := HROW.out.cut (a := i) (by rw [HYL.out]; omega) (Builtin.zeroCells (ragg rzero).cells (N - i)).toList
        have G8 := Lib.hid (HGR.out.trans (setCells_grown g (Builtin.zeroCells (ragg rzero).cells (N - i)).toList (i * 6) wr))
        have hown := hcut.own (n := i) (by rw [List.length_take, HYL.out]; omega) hBg
        rw [HTK.out] at hown
        have OW := Lib.hid hown
        generalize (Builtin.zeroCells (ragg rzero).cells (N - i)).toList = zs at hcl G8 OW
        generalize World.setCells _ _ _ _ = w9 at hcl G8 OW
        have ht1 := recs_tail g N c i wr hiN hcN
        have ht2 := slice_front (some ⟨g, 0, none⟩) N c i w9 (by omega)
        clear hcut hown hth HROW HGR hall hjN2
        subst hiL
        have e2 : ¬ (j : Int) < (N : Int) := by omega
        go_wp2_with fail
        go_ret
        exact ⟨rfl, OW.out, G8.out⟩
end Go.Proofs.Ythdefnfpjbpbkaa.Kpd
/- Package fold: the last record of each key, as a map of the call's own. -/
namespace Go.Proofs.Ythdefnfpjbpbkaa.Kpd
open Go.RowKit Go.Lib Go.Maps Rcd

theorem bel_grown {a w w' : World} {m : Nat} (hb : Below a.heap.size a w) (hg : w.grownBy w' (some m)) (hm : a.heap.size ≤ m) : Below a.heap.size a w' :=
  ⟨hg.os.trans hb.os, hg.tape.trans hb.tape, hg.output.trans hb.output, Nat.le_trans hb.size hg.size, fun k hk => (hg.block k (Nat.lt_of_lt_of_le hk hb.size) (fun e => by injection e with e; omega)).trans (hb.block k hk)⟩
set_option maxRecDepth 100000 in
set_option maxHeartbeats 8000000 in
/-- fold.lastOfKeys. -/
theorem LastOf_is (l : List Sp) (N M : Nat) (A : Option Addr) (c B : Nat) (w : World) (hN : l.length = N) (hm : N ≤ 1000000) (hM : (recsOf l).length = M) (hM2 : M ≤ 1000000) (hB : B ≤ w.heap.size) (h : SegsAt w B A l) (hk : ∀ x ∈ recsOf l, x.k.length ≤ 1000000) :
    Calls Try.prog 35 #[.slice A N c] w fun e w' => ∃ m D, e = .returned (.map (some m)) ∧ w.heap.size ≤ m ∧ MapIn w' m M (recsOf l) D ∧ Below w.heap.size w w' := by
  have hmm := @run_makeMap Try.prog
  have HH := Lib.hid (h.mono hB)
  have HN := Lib.hid hN
  have HM := Lib.hid hM
  have HKL := Lib.hid hk
  have M0 := Lib.hid (MapIn.made w)
  have B0 := Lib.hid ((Below.refl w.heap.size w).alloc (Nat.le_refl _) (.map #[] 0))
  obtain ⟨m, hmE⟩ : ∃ m, w.heap.size = m := ⟨_, rfl⟩
  obtain ⟨W0, hW⟩ : ∃ W0, w.alloc (.map #[] 0) = W0 := ⟨_, rfl⟩
  rw [hW] at M0 B0
  rw [hmE] at M0
  have HW := Lib.hid hW
  have HME := Lib.hid hmE
  clear h hB hN hM hk hW hmE
  go_enter Try.func35, Try.ntmps35
  go_upto_region 2 with fail
  rw [HW.out, HME.out]
  clear HW hmm
  go_wp2_with fail
  go_loopw [11] (fun i wr => ∃ (k nn : Nat) (D : DV), k ≤ N ∧ i = .int .i64 (k : Int) ∧ nn ≤ (recsOf (l.take k)).length ∧ MapIn wr m nn (recsOf (l.take k)) D ∧ Below w.heap.size w wr) (fun i _ => N - (RowKit.intOf i).toNat)
  case atStart => exact ⟨0, 0, _, Nat.zero_le _, rfl, Nat.zero_le _, M0.out, B0.out⟩
  case round =>
    obtain ⟨k, nn, D, hk, rfl, hnn, hmap, hbl⟩ := hrel
    have HMP := Lib.hid hmap
    have HB := Lib.hid hbl
    have HNN := Lib.hid hnn
    clear hmap hbl hnn M0 B0
    by_cases hlt : k < N
    · have hlr : k < l.length := by rw [HN.out]; exact hlt
      obtain ⟨b0, o0, rfl, hb0, hc⟩ := HH.out.some_ (by omega)
      obtain ⟨A1, c1, hsg⟩ := hc k hlr
      have hrn := recs_next hlr
      have hpt := recs_take_le l (k + 1)
      rw [HM.out] at hpt
      have hks0 : ∀ x ∈ l[k].rs, x.k.length ≤ 1000000 := fun x hx => HKL.out x (List.mem_flatMap.2 ⟨_, List.getElem_mem hlr, hx⟩)
      clear hc
      generalize l[k] = s at hsg hrn hks0
      obtain ⟨sb, srs⟩ := s
      obtain ⟨s0, s1, hA, hcp, hlim⟩ := hsg
      dsimp only at s0 s1 hA hcp hlim hrn hks0
      obtain ⟨M1, hM1⟩ : ∃ M1, srs.length = M1 := ⟨_, rfl⟩
      rw [hM1] at s1
      have hcnt : (recsOf (l.take k)).length + M1 ≤ M := by rw [hrn, List.length_append, hM1] at hpt; exact hpt
      have HRN := Lib.hid hrn
      have HA := Lib.hid hA
      have HKS := Lib.hid hks0
      have HM1 := Lib.hid hM1
      have hld := load_seg_at ((HB.out.cell (p := ⟨b0, o0 + k * 2, none⟩) hb0).trans s0) ((HB.out.cell (p := ⟨b0, o0 + k * 2 + 1, none⟩) hb0).trans s1)
      obtain ⟨g9, W4, hg9, hW4, hbn, hbx, hbw⟩ := any_box HB.out 49 szero (sarr sb A1 M1 c1)
      have HBN := Lib.hid hbn
      have HBX := Lib.hid hbx
      have MP5 := Lib.hid (HMP.out.below hbw)
      unfold szero at hW4
      unfold sarr at HBX MP5
      have HW4 := Lib.hid hW4
      clear hbn hbx hbw hW4 hM1 hA hcp hlim hlr hrn hks0 hpt HMP HB
      have e1 : (k : Int) < (N : Int) := by omega
      go_upto_region 5 with (first | (refine wpList_load_any (by rfl) 49 (.tmp 13) rfl b0 (o0 + k * 2) rfl _ hld ?_; simp only [Act.put]) | (rw [HW4.out]; refine wpList_store_whole rfl 49 (.tmp 5) (.tmp 14) rfl g9 _ rfl rfl szero HBN.out info_seg rfl (by simp [Value.oneCell']) ?_; simp only [Act.put]))
      clear HW4 HBN s0 s1 hg9 hld
      generalize World.setRow _ _ _ = w5 at HBX MP5 ⊢
      have B5 := Lib.hid HBX.out.out.2
      have d1 : w5.cell? ⟨g9, 1, none⟩ = some (.slice A1 M1 c1) := HBX.out.cell 1
      have hnn0 := HNN.out
      clear HBX
      go_wp2_with fail
      go_loopw [18] (fun i wr => ∃ (q n2 : Nat) (D : DV), q ≤ M1 ∧ i = .int .i64 (q : Int) ∧ n2 ≤ (recsOf (l.take k)).length + q ∧ MapIn wr m n2 (recsOf (l.take k) ++ srs.take q) D ∧ Below w.heap.size w wr) (fun i _ => M1 - (RowKit.intOf i).toNat)
      case atStart => exact ⟨0, nn, D, Nat.zero_le _, rfl, hnn0, by rw [List.take_zero, List.append_nil]; exact MP5.out, B5.out⟩
      case round =>
        obtain ⟨q, n2, D2, hq, rfl, hn2, hmap, hbl⟩ := hrel
        have HMP := Lib.hid hmap
        have HB := Lib.hid hbl
        have HN2 := Lib.hid hn2
        clear hmap hbl hn2 MP5 B5 d1
        by_cases hqt : q < M1
        · have hqr : q < srs.length := by rw [HM1.out]; exact hqt
          obtain ⟨b2, o2, rfl, hb2, hc2⟩ := (HA.out.below HB.out).some_ (by omega)
          obtain ⟨c0, c1', c2, c3, c4, c5⟩ := hc2 q hqr
          have hkl := HKS.out _ (List.getElem_mem hqr)
          have htk : srs.take (q + 1) = srs.take q ++ [srs[q]] := List.take_succ_eq_append_getElem hqr
          clear hc2
          generalize srs[q] = x at c0 c1' c2 c3 c4 c5 hkl htk
          obtain ⟨xo, xt, xk, xb, xq, xg⟩ := x
          dsimp only at c0 c1' c2 c3 c4 c5 hkl
          obtain ⟨ks, hks⟩ : ∃ ks, str xk = ks := ⟨_, rfl⟩
          obtain ⟨bs, hbs⟩ : ∃ bs, str xb = bs := ⟨_, rfl⟩
          have hra : ragg ⟨xo, xt, xk, xb, xq, xg⟩ = .agg #[.int .i64 xo, .int .i64 xt, .string ks, .string bs, .int .i64 xq, .bool xg] := by rw [← hks, ← hbs]; rfl
          rw [hks] at c2
          rw [hbs] at c3
          have hkey := key_is (x := xk) (by unfold maxLen; omega)
          rw [hks] at hkey
          have HRA := Lib.hid hra
          have HTK := Lib.hid htk
          have HKY := Lib.hid hkey
          have HKE := Lib.hid hks
          have e7 : (q : Int) < (M1 : Int) := by omega
          obtain ⟨b9, W8, hg8, hW8, hbn, hbx, hbw⟩ := any_box HB.out 46 zcells (rarr xo xt ks bs xq xg)
          have HBN := Lib.hid hbn
          have X6 := Lib.hid hbx
          have MP6 := Lib.hid (HMP.out.below hbw)
          unfold zcells at hW8
          unfold rarr at X6 MP6
          have HW8 := Lib.hid hW8
          clear hbn hbx hbw hW8 hks hbs hra htk hkey HMP HB hkl
          go_upto_region 8 with (rw [HW8.out]; refine wpList_store_whole rfl 46 (.tmp 7) (.tmp 21) rfl b9 _ rfl rfl zcells HBN.out info_rec rfl (by simp [Value.oneCell']) ?_; simp only [Act.put])
          clear HW8 HBN c0 c1' c2 c3 c4 c5 hg8 hqr
          generalize World.setRow _ _ _ = w6 at X6 MP6 ⊢
          have x2 : w6.cell? ⟨b9, 2, none⟩ = some (.string ks) := X6.out.cell 2
          by_cases hk0 : xk = []
          · have g1 : (ks.toList == []) = true := by rw [← HKE.out, str_toList, hk0]; rfl
            have g2 : ks = ByteArray.empty := by rw [← HKE.out, hk0]; rfl
            have hq2 := HN2.out
            go_wp2_with fail
            go_roundw
            case rel => exact ⟨q + 1, n2, D2, hqt, by go_num, by omega, by rw [HTK.out, ← List.append_assoc]; exact MP6.out.skip hk0, X6.out.out.2⟩
            case measure => simp [RowKit.intOf]; omega
          · have g1 : (ks.toList == []) = false := by rw [← HKE.out, str_toList]; simp [hk0]
            have g2 : ¬ ks = ByteArray.empty := by
              intro e
              rw [← HKE.out] at e
              exact hk0 (str_inj (e.trans (show ByteArray.empty = str [] from rfl)))
            have HK0 := Lib.hid hk0
            have hld := X6.out.load rfl
            have hown := MP6.out.own
            have hq2 := HN2.out
            have hk2 := HKY.out
            have hmx : n2 < maxLen := by unfold maxLen; omega
            clear hk0
            go_wp2_with (first | (refine wpList_load_any (by rfl) 46 (.tmp 7) rfl b9 0 rfl _ hld ?_; simp only [Act.put]) | (at_mapUpdate; refine wpList_mapUpdate_own _ rfl _ _ _ 65 rfl 9 46 skeyed Try.underlying65 recR m n2 D2 rfl hown hmx _ _ (.string xk) rfl rfl hk2 (.held (.agg #[.int .i64 xo, .int .i64 xt, .string ks, .string bs, .int .i64 xq, .bool xg])) [] rfl ?_))
            intro w9 hown9 hgrow9
            have B9 := Lib.hid (bel_grown X6.out.out.2 hgrow9 (Nat.le_of_eq HME.out))
            have hmp9 := MP6.out.put (x := ⟨xo, xt, xk, xb, xq, xg⟩) HK0.out (by rw [HRA.out]; exact hown9)
            have MP9 := Lib.hid hmp9
            clear hmp9 hown9 hgrow9 hld hown hk2 hmx x2 X6 MP6
            go_wp2_with fail
            go_roundw
            case rel => exact ⟨q + 1, n2 + 1, _, hqt, by go_num, by omega, by rw [HTK.out, ← List.append_assoc]; exact MP9.out, B9.out⟩
            case measure => simp [RowKit.intOf]; omega
        · have hqM : q = M1 := by omega
          have hft : srs.take q = srs := List.take_of_length_le (by rw [HM1.out, hqM]; exact Nat.le_refl _)
          have hlen2 : (recsOf (l.take (k + 1))).length = (recsOf (l.take k)).length + M1 := by rw [HRN.out, List.length_append, HM1.out]
          rw [hft, ← HRN.out] at HMP
          have hq2 := HN2.out
          rw [hqM] at hq2
          clear hft hqM
          go_wp2_with fail
          go_roundw
          case rel => exact ⟨k + 1, n2, D2, hlt, by go_num, by rw [hlen2]; exact hq2, HMP.out, HB.out⟩
          case measure => simp [RowKit.intOf]; omega
    · have hkN : k = N := by omega
      have htl : l.take k = l := List.take_of_length_le (by rw [HN.out, hkN]; exact Nat.le_refl _)
      rw [htl] at HMP HNN
      have hnM : nn ≤ M := by rw [← HM.out]; exact HNN.out
      have HMM := Lib.hid (HMP.out.mono hnM)
      have hme := HME.out
      clear htl hkN
      go_wp2_with fail
      go_ret
      exact ⟨m, D, rfl, Nat.le_of_eq hme, HMM.out, HB.out⟩
end Go.Proofs.Ythdefnfpjbpbkaa.Kpd
/- strings.Clone; records that are not too long. -/
namespace Go.Proofs.Ythdefnfpjbpbkaa
open Go.RowKit Go.Lib Rcd

set_option maxHeartbeats 1000000 in
theorem CloneS_is (s : ByteArray) (w : World) (h : s.size ≤ 281474976710656) :
    Calls Try.prog 55 #[.string s] w fun e w' => e = .returned (.string s) ∧ Below w.heap.size w w' := by
  have HC := Lib.hid (fun W => Try.stringslite_Clone s W h)
  go_enter Try.func55, Try.ntmps55
  go_wp2_with fail
  refine (HC.out _).mono ?_
  rintro e w1 ⟨rfl, hb⟩
  go_wp2_with fail
  go_ret
  exact ⟨rfl, hb⟩

/-- A record that is no longer than one may be. -/
def Short (r : Rc) : Prop := r.k.length ≤ 1000000 ∧ r.b.length ≤ 1000000
theorem short_of {r : Rc} (h : mayB r = true) : Short r := by
  obtain ⟨_, _, _, _, h5, h6, _⟩ := (may_iff r).1 h
  exact ⟨by omega, by omega⟩

end Go.Proofs.Ythdefnfpjbpbkaa
/- Whether segments, rules and a time may be asked about: plain. -/
namespace Go.Proofs.Ythdefnfpjbpbkaa.Kpd
open Go.RowKit Go.Lib Rcd

/-- May it be asked how many go? -/
def askB (l : List Sp) (r : Ru) (now : Int) : Bool := rowB l && (ruB r && decide (0 ≤ now ∧ now ≤ 1099511627776))
theorem ask_parts {l : List Sp} {r : Ru} {now : Int} (h : askB l r now = true) : rowB l = true ∧ ruB r = true ∧ decide (0 ≤ now ∧ now ≤ 1099511627776) = true := by
  unfold askB at h
  rw [Bool.and_eq_true, Bool.and_eq_true] at h
  exact h
theorem kbox_put {w W : World} {g : Nat} {cs : Array Value} (k : RBox w g cs W) (hg : w.heap.size ≤ g) (i : Nat) (v : Value) : RBox w g (cs.setIfInBounds i v) (W.setCell ⟨g, i, none⟩ v) :=
  .mk (k.out.1.put i v) (k.out.2.setCell (p := ⟨g, i, none⟩) hg v)
end Go.Proofs.Ythdefnfpjbpbkaa.Kpd
/- Package keep: a segment that shares nothing with another. -/
namespace Go.Proofs.Ythdefnfpjbpbkaa.Kpd
open Go.RowKit Go.Lib Rcd

theorem Tro.put3 {w W : World} {p : Nat} {cs ds es : Array Value} (k : Tro w p cs ds es W) (i : Nat) (v : Value) : Tro w p cs ds (es.setIfInBounds i v) (W.setCell ⟨p + 1 + 1, i, none⟩ v) := by
  obtain ⟨h1, h2, h3, h4, h5⟩ := k.out
  exact .mk ⟨h1.far (p := ⟨p + 1 + 1, i, none⟩) (by show p ≠ p + 1 + 1; omega) v, h2.far (p := ⟨p + 1 + 1, i, none⟩) (by show p + 1 ≠ p + 1 + 1; omega) v, h3.put i v, h4.setCell (p := ⟨p + 1 + 1, i, none⟩) (by show _ ≤ p + 1 + 1; omega) v, h5⟩
theorem Tro.row2 {w W : World} {p : Nat} {cs ds es : Array Value} (k : Tro w p cs ds es W) (xs : Array Value) : Tro w p cs xs es (W.setRow (p + 1) xs) := by
  obtain ⟨h1, h2, h3, h4, h5⟩ := k.out
  exact .mk ⟨setRow_blk h1 (by omega) xs, h2.row xs, setRow_blk h3 (by omega) xs, below_row h4 (by omega) xs, h5⟩
theorem Tro.grown {w W W' : World} {p B e size n : Nat} {cs ds es : Array Value} {v : Value} {xs : List Value} {o : Obj} (k : Tro w p cs ds es W) (hown : W.ownsRow B e size v n xs) (hB : p + 1 + 1 < B) (hBW : B ≤ W.heap.size) (hgrow : (W.alloc o).grownBy W' v.ownBlock) : Tro w p cs ds es W' := by
  obtain ⟨h1, h2, h3, h4, h5⟩ := k.out
  exact .mk ⟨blk_grown h1 hown (by omega) hgrow, blk_grown h2 hown (by omega) hgrow, blk_grown h3 hown hB hgrow, h4.trans ((below_alloc_grown hBW hown hgrow).mono (by omega)), h5⟩
set_option maxRecDepth 100000 in
set_option maxHeartbeats 8000000 in
/-- keep.copyOf. -/
theorem kCopy_is (b : Int) (rs : List Rc) (N : Nat) (A : Option Addr) (c B : Nat) (w : World) (hN : rs.length = N) (hm : N ≤ 1000000) (hs : ∀ r ∈ rs, Short r) (hB : B ≤ w.heap.size) (h : RecsAt w B A rs) :
    Calls Try.prog 50 #[.agg #[.int .i64 b, .slice A N c]] w fun e w' => ∃ A' c', e = .returned (.agg #[.int .i64 b, .slice A' N c']) ∧ w'.ownsRow w.heap.size 46 6 (.slice A' N c') N (flat rs) ∧ Below w.heap.size w w' := by
  obtain ⟨i0, hi, hz0, hz1, hz2⟩ := info_parts info_more
  have hT := Tro.new w 49 49 49 (sarr b A N c) szero szero
  have hD := Duo.new w 49 49 (sarr b A N c) szero
  have H := Lib.hid (h.mono hB)
  have HN := Lib.hid hN
  have HS := Lib.hid hs
  obtain ⟨p, hp⟩ : ∃ p, w.heap.size = p := ⟨_, rfl⟩
  have hsz : ((w.alloc (.cells (sarr b A N c) 49)).alloc (.cells szero 49)).heap.size = p + 1 + 1 := by rw [← hp]; simp
  obtain ⟨W1, hW⟩ : ∃ W1, (w.alloc (.cells (sarr b A N c) 49)).alloc (.cells szero 49) = W1 := ⟨_, rfl⟩
  rw [hW] at hT hD hsz
  obtain ⟨W4, hW4⟩ : ∃ W4, W1.alloc (.cells szero 49) = W4 := ⟨_, rfl⟩
  rw [hW4, hp] at hT
  rw [hp] at hD
  unfold sarr szero at hT hD hW
  unfold szero at hW4
  have D0 := Lib.hid hD
  have T0 := Lib.hid (hT.row3 #[.int .i64 b, .slice none 0 0])
  have HBN := Lib.hid hT.out.2.2.1
  have HW := Lib.hid hW
  have HW4 := Lib.hid hW4
  have HP := Lib.hid hp
  have HSZ := Lib.hid hsz
  have HPW : Hid (w.heap.size ≤ p + 1 + 1 + 1) := by show _ ≤ _; omega
  clear hT hD hW hW4 hp hsz h hN hB hs
  go_enter Try.func50, Try.ntmps50
  go_upto_region 1 with fail
  rw [HW.out, HP.out]
  clear HW
  have d0 : W1.cell? ⟨p, 0, none⟩ = some (.int .i64 b) := D0.out.cell1 0
  go_upto_region 2 with (rw [HW4.out, HSZ.out]; refine wpList_store_whole rfl 49 (.tmp 3) (.tmp 8) rfl (p + 1 + 1) _ rfl rfl _ HBN.out info_seg rfl (by simp [Value.oneCell']) ?_; simp only [Act.put])
  clear HW4 HBN HSZ d0 D0
  generalize World.setRow _ _ _ = w5 at T0 ⊢
  have d1 : w5.cell? ⟨p, 1, none⟩ = some (.slice A N c) := T0.out.cell1 1
  go_wp2_with fail
  clear d1
  go_loopw [12] (fun i wr => ∃ (k : Nat) (v : Value), k ≤ N ∧ i = .int .i64 (k : Int) ∧ Tro w p #[.int .i64 b, .slice A N c] #[.int .i64 0, .slice none 0 0] #[.int .i64 b, v] wr ∧ wr.ownsRow (p + 1 + 1 + 1) 46 6 v k (flat (rs.take k))) (fun i _ => N - (RowKit.intOf i).toNat)
  case atStart => exact ⟨0, _, Nat.zero_le _, rfl, T0.out, World.ownsRow_nil _ _ _ _⟩
  case round =>
    obtain ⟨k, v, hk, rfl, htr, hown⟩ := hrel
    have T := Lib.hid htr
    have HO := Lib.hid hown
    have HLT : Hid (p + 1 + 1 + 1 ≤ wr.heap.size) := htr.out.2.2.1.lt
    clear htr hown T0
    by_cases hlt : k < N
    · have hlr : k < rs.length := by rw [HN.out]; exact hlt
      obtain ⟨b0, o0, rfl, hb0, hc⟩ := (H.out.below T.out.bel).some_ (by omega)
      obtain ⟨c0, c1, c2, c3, c4, c5⟩ := hc k hlr
      have hsn := takeR_snoc hlr
      have hsh := HS.out _ (List.getElem_mem hlr)
      clear hc
      generalize rs[k] = s at c0 c1 c2 c3 c4 c5 hsn hsh
      obtain ⟨o, t, key, bod, q, g⟩ := s
      dsimp only at c0 c1 c2 c3 c4 c5
      have hfc : rcells ⟨o, t, key, bod, q, g⟩ = [.int .i64 o, .int .i64 t, .string (str key), .string (str bod), .int .i64 q, .bool g] := rfl
      have hon : ∀ u ∈ rcells ⟨o, t, key, bod, q, g⟩, u.oneCell' = true := one_cells _
      rw [hfc] at hsn hon
      have HC := Lib.hid (fun W => CloneS_is (str key) W (by rw [str_size]; exact Nat.le_trans hsh.1 (by omega)))
      have HE := Lib.hid (fun W => CloneS_is (str bod) W (by rw [str_size]; exact Nat.le_trans hsh.2 (by omega)))
      generalize str key = ks at c2 hsn hon HC
      generalize str bod = bs at c3 hsn hon HE
      have HSN := Lib.hid hsn
      have HON := Lib.hid hon
      have hkI : (k : Int) < (N : Int) := by omega
      clear hsn hon hfc hsh hlr
      obtain ⟨g9, W4, hg9, hW4, hbn, hbx, hbw⟩ := box_new (Below.refl wr.heap.size wr) (rarr o t ks bs q g)
      have HBN := Lib.hid hbn
      have HX := Lib.hid hbx
      have HG : Hid (wr.heap.size ≤ g9) := Nat.le_of_eq hg9
      unfold zcells at hW4
      unfold rarr at HX
      have HW4 := Lib.hid hW4
      clear hbn hbx hbw hW4
      go_upto_region 5 with (rw [HW4.out]; refine wpList_store_whole rfl 46 (.tmp 5) (.tmp 15) rfl g9 _ rfl rfl zcells HBN.out info_rec rfl (by simp [Value.oneCell']) ?_; simp only [Act.put])
      clear HW4 HBN c0 c1 c2 c3 c4 c5 hg9
      generalize World.setRow _ _ _ = w6 at HX ⊢
      have hX := HX.out.drewN 1
      change RBox wr g9 #[.int .i64 o, .int .i64 t, .string ks, .string bs, .int .i64 q, .bool g] w6.drew at hX
      have e2 : w6.drew.cell? ⟨g9, 2, none⟩ = some (.string ks) := hX.cell 2
      have e3 : w6.drew.cell? ⟨g9, 3, none⟩ = some (.string bs) := hX.cell 3
      refine wp_region_held_drew (S := fun W => W.cell? ⟨g9, 2, none⟩ = some (.string ks) ∧ W.cell? ⟨g9, 3, none⟩ = some (.string bs)) (by kernel_rfl) ⟨e2, e3⟩ (fun hS => ?_)
      clear HX e2 e3
      generalize w6.drew = w7 at hX hS ⊢
      refine take_op 0 16 (.pointer (some ⟨g9, 2, none⟩)) rfl rfl (by kernel_rfl) (fun _ _ _ h => h) (by rfl) hS (fun w' hS' => ?hv1) ?hh1
      case hv1 => (obtain ⟨s1, s2⟩ := hS'; go_simp; (try with_reducible rfl); (try omega))
      simp only [Act.put, List.setIfInBounds_toArray, List.set_cons_zero, List.set_cons_succ]
      refine take_op 1 17 (.string ks) rfl rfl (by kernel_rfl) (fun _ _ _ h => h) (by rfl) hS (fun w' hS' => ?hv2) ?hh2
      case hv2 => (obtain ⟨s1, s2⟩ := hS'; go_simp; (try with_reducible rfl); (try omega))
      simp only [Act.put, List.setIfInBounds_toArray, List.set_cons_zero, List.set_cons_succ]
      refine take_op 3 19 (.pointer (some ⟨g9, 3, none⟩)) rfl rfl (by kernel_rfl) (fun _ _ _ h => h) (by rfl) hS (fun w' hS' => ?hv3) ?hh3
      case hv3 => (obtain ⟨s1, s2⟩ := hS'; go_simp; (try with_reducible rfl); (try omega))
      simp only [Act.put, List.setIfInBounds_toArray, List.set_cons_zero, List.set_cons_succ]
      refine take_op 4 20 (.string bs) rfl rfl (by kernel_rfl) (fun _ _ _ h => h) (by rfl) hS (fun w' hS' => ?hv4) ?hh4
      case hv4 => (obtain ⟨s1, s2⟩ := hS'; go_simp; (try with_reducible rfl); (try omega))
      simp only [Act.put, List.setIfInBounds_toArray, List.set_cons_zero, List.set_cons_succ]
      refine only_op 2 rfl (by kernel_rfl) (by rfl) (wp_call 18 55 #[.string ks] (.string ks) (fun W => Below w7.heap.size w7 W) rfl (by go_simp) (HC.out w7) (fun Wa hb => ?_))
      have hX2 := hX.below hb
      have hS2 : (fun W => W.cell? ⟨g9, 2, none⟩ = some (.string ks) ∧ W.cell? ⟨g9, 3, none⟩ = some (.string bs)) Wa := ⟨hX2.cell 2, hX2.cell 3⟩
      refine ⟨hS2, ?_⟩
      simp only [Act.put, List.setIfInBounds_toArray, List.set_cons_zero, List.set_cons_succ]
      clear hX hS hb
      refine take_op 6 22 (.pointer (some ⟨g9, 2, none⟩)) rfl rfl (by kernel_rfl) (fun _ _ _ h => h) (by rfl) hS2 (fun w' hS' => ?hv5) ?hh5
      case hv5 => (obtain ⟨s1, s2⟩ := hS'; go_simp; (try with_reducible rfl); (try omega))
      simp only [Act.put, List.setIfInBounds_toArray, List.set_cons_zero, List.set_cons_succ]
      refine only_op 5 rfl (by kernel_rfl) (by rfl) (wp_call 21 55 #[.string bs] (.string bs) (fun W => Below Wa.heap.size Wa W) rfl (by go_simp) (HE.out Wa) (fun Wb hb => ?_))
      have hX3 := hX2.below hb
      have hS3 : (fun W => W.cell? ⟨g9, 2, none⟩ = some (.string ks) ∧ W.cell? ⟨g9, 3, none⟩ = some (.string bs)) Wb := ⟨hX3.cell 2, hX3.cell 3⟩
      refine ⟨hS3, ?_⟩
      simp only [Act.put, List.setIfInBounds_toArray, List.set_cons_zero, List.set_cons_succ]
      have f2 := hX3.out.1.frozen 2
      have s2 := hS3.1
      have hX4 : RBox wr g9 #[.int .i64 o, .int .i64 t, .string ks, .string bs, .int .i64 q, .bool g] (Wb.setCell ⟨g9, 2, none⟩ (.string ks)) := kbox_put hX3 HG.out 2 (.string ks)
      have hS4 : (fun W => W.cell? ⟨g9, 2, none⟩ = some (.string ks) ∧ W.cell? ⟨g9, 3, none⟩ = some (.string bs)) (Wb.setCell ⟨g9, 2, none⟩ (.string ks)) := ⟨hX4.cell 2, hX4.cell 3⟩
      refine only_op 7 rfl (by kernel_rfl) (by rfl) (wp_store_none 9 (.tmp 22) (.tmp 18) rfl rfl _ _ rfl rfl (w' := Wb.setCell ⟨g9, 2, none⟩ (.string ks)) (by go_simp) ⟨hS4, ?_⟩)
      clear hX2 hS2 hb hX3 hS3 f2 s2
      generalize Wb.setCell _ _ = Wc at hX4 hS4 ⊢
      refine take_op 8 23 (.pointer (some ⟨g9, 3, none⟩)) rfl rfl (by kernel_rfl) (fun _ _ _ h => h) (by rfl) hS4 (fun w' hS' => ?hv6) ?hh6
      case hv6 => (obtain ⟨s1, s2⟩ := hS'; go_simp; (try with_reducible rfl); (try omega))
      simp only [Act.put, List.setIfInBounds_toArray, List.set_cons_zero, List.set_cons_succ]
      have f3 := hX4.out.1.frozen 3
      have s3 := hS4.2
      have hX5 : RBox wr g9 #[.int .i64 o, .int .i64 t, .string ks, .string bs, .int .i64 q, .bool g] (Wc.setCell ⟨g9, 3, none⟩ (.string bs)) := kbox_put hX4 HG.out 3 (.string bs)
      have hS5 : (fun W => W.cell? ⟨g9, 2, none⟩ = some (.string ks) ∧ W.cell? ⟨g9, 3, none⟩ = some (.string bs)) (Wc.setCell ⟨g9, 3, none⟩ (.string bs)) := ⟨hX5.cell 2, hX5.cell 3⟩
      refine only_op 9 rfl (by kernel_rfl) (by rfl) (wp_store_none 9 (.tmp 23) (.tmp 21) rfl rfl _ _ rfl rfl (w' := Wc.setCell ⟨g9, 3, none⟩ (.string bs)) (by go_simp) ⟨hS5, ?_⟩)
      clear hX4 hS4 f3 s3
      refine wpAnyH_done (by kernel_rfl) ?_ _
      clear hS5
      generalize Wc.setCell _ _ = Wd at hX5 ⊢
      have T6 := Lib.hid (T.out.below hX5.out.2)
      have O6 := Lib.hid (own_below HO.out hX5.out.2)
      have X6 := Lib.hid hX5
      have hl6 : p + 1 + 1 + 1 ≤ Wd.heap.size := Nat.le_trans HLT.out hX5.out.2.size
      clear hX5 T HO HC HE
      have hld := X6.out.load rfl
      have d1 : Wd.cell? ⟨p + 1 + 1, 1, none⟩ = some v := T6.out.out.2.2.1.cell 1
      have hv1 := own_one O6.out
      go_wp2_with (first | (refine wpList_load_any (by rfl) 46 (.tmp 5) rfl g9 0 rfl _ hld ?_; simp only [Act.put]) | (at_builtin; refine wpList_append_own _ rfl _ _ 37 rfl (p + 1 + 1 + 1) 46 i0 (.agg zcells) 6 64 Try.underlying37 hi hz0 hz1 hz2 rfl (by decide) _ _ _ rfl (O6.out.alloc _) ⟨Wd.heap.size, 0, none⟩ 1 1 [.int .i64 o, .int .i64 t, .string ks, .string bs, .int .i64 q, .bool g] rfl rfl ?c1 ?c2 ?c3 ?c4 ?c5 ?_))
      case c1 => exact fun j u h => cells_new Wd _ [.int .i64 o, .int .i64 t, .string ks, .string bs, .int .i64 q, .bool g] j u h
      case c2 => exact HON.out
      case c3 => unfold maxLen; omega
      case c4 => first | omega | (simp; omega)
      case c5 => first | omega | (simp; omega)
      intro v' w8 hown' hgrow _
      have T8 := Lib.hid (T6.out.grown O6.out (Nat.lt_succ_self _) hl6 hgrow)
      have O8 : Hid (w8.ownsRow (p + 1 + 1 + 1) 46 6 v' (k + 1) (flat (rs.take (k + 1)))) := by show World.ownsRow _ _ _ _ _ _ _; rw [HSN.out]; exact hown'
      clear hown' hgrow T6 O6 X6 hld d1 hv1 HSN HON
      have d1 : w8.cell? ⟨p + 1 + 1, 1, none⟩ = some v := T8.out.out.2.2.1.cell 1
      have f1 := T8.out.out.2.2.1.frozen 1
      have hv2 := own_one O8.out
      have T9 : Hid (Tro w p #[.int .i64 b, .slice (some ⟨b0, o0, none⟩) N c] #[.int .i64 0, .slice none 0 0] #[.int .i64 b, v'] (w8.setCell ⟨p + 1 + 1, 1, none⟩ v')) := T8.out.put3 1 v'
      have O9 := Lib.hid (own_far O8.out ⟨p + 1 + 1, 1, none⟩ (Nat.lt_succ_self _) v')
      obtain ⟨A9, cc9, hv9⟩ := row_slice O8.out
      subst hv9
      clear T8 O8 hv2
      go_wp2_with fail
      clear d1 f1
      go_roundw
      case rel => exact ⟨k + 1, _, hlt, by go_num, T9.out, O9.out⟩
      case measure => simp [RowKit.intOf]; omega
    · obtain rfl : k = N := by omega
      rw [List.take_of_length_le (by rw [HN.out]; exact Nat.le_refl _)] at HO
      obtain ⟨A', c', rfl⟩ := row_slice HO.out
      have hld := load_seg T.out.out.2.2.1 rfl
      have HB := Lib.hid T.out.out.2.1
      have T8 := Lib.hid (T.out.row2 #[.int .i64 b, .slice A' k c'])
      have O8 := Lib.hid (own_mono (own_row HO.out (p + 1) (by omega) #[.int .i64 b, .slice A' k c']) HPW.out)
      clear T HO
      go_wp2_with (first | (refine wpList_load_any (by rfl) 49 (.tmp 3) rfl (p + 1 + 1) 0 rfl _ hld ?_; simp only [Act.put]) | (refine wpList_store_whole rfl 49 (.tmp 2) (.tmp 31) rfl (p + 1) _ rfl rfl _ HB.out info_seg rfl (by simp [Value.oneCell']) ?_; simp only [Act.put]))
      refine bodyPost_ret (results_cell Try.results50 rfl (load_seg T8.out.out.2.1 rfl)) rfl ⟨A', c', rfl, O8.out, T8.out.bel⟩
end Go.Proofs.Ythdefnfpjbpbkaa.Kpd
/- Package keep: what is too much, what is too old. -/
namespace Go.Proofs.Ythdefnfpjbpbkaa.Kpd
open Go.RowKit Go.Lib Rcd

theorem much_ways (r : Ru) (z : Nat) (h : -1 ≤ r.by_) : (r.by_ = -1 ∧ muchB r z = false) ∨ (0 ≤ r.by_ ∧ r.by_ < (z : Int) ∧ muchB r z = true) ∨ (0 ≤ r.by_ ∧ ¬ r.by_ < (z : Int) ∧ muchB r z = false) := by
  unfold muchB
  by_cases c : 0 ≤ r.by_
  · by_cases d : r.by_ < (z : Int)
    · exact .inr (.inl ⟨c, d, by rw [decide_eq_true c, decide_eq_true d]; rfl⟩)
    · exact .inr (.inr ⟨c, d, by rw [decide_eq_false d, Bool.and_false]⟩)
  · exact .inl ⟨by omega, by rw [decide_eq_false c]; rfl⟩

set_option maxRecDepth 100000 in
set_option maxHeartbeats 2000000 in
/-- keep.isTooMuch. -/
theorem isTooMuch_is (r : Ru) (z : Nat) (X : Bool) (w : World) (hr : -1 ≤ r.by_) (hX : muchB r z = X) :
    Calls Try.prog 69 #[.int .i64 (z : Int), ruagg r] w fun e w' => e = .returned (.bool X) ∧ Below w.heap.size w w' := by
  have hway := much_ways r z hr
  rw [hX] at hway
  unfold ruagg
  obtain ⟨sb, by_, ag, co, gr⟩ := r
  dsimp only at hway ⊢
  have R0 := Lib.hid (RBox.new w 25 (ruarr sb by_ ag co gr))
  obtain ⟨p, hp⟩ : ∃ p, w.heap.size = p := ⟨_, rfl⟩
  obtain ⟨W0, hW⟩ : ∃ W0, w.alloc (.cells (ruarr sb by_ ag co gr) 25) = W0 := ⟨_, rfl⟩
  rw [hW, hp] at R0
  unfold ruarr at R0 hW ⊢
  have HW := Lib.hid hW
  have HP := Lib.hid hp
  clear hW hp hX hr
  rcases hway with ⟨rfl, rfl⟩ | ⟨h1, h2, rfl⟩ | ⟨h1, h2, rfl⟩
  · have d1 : W0.cell? ⟨p, 1, none⟩ = some (.int .i64 (-1)) := R0.out.cell 1
    go_enter Try.func69, Try.ntmps69
    go_upto_region 1 with fail
    rw [HW.out, HP.out]
    clear HW HP
    go_wp2_with fail
    go_ret
    exact ⟨rfl, R0.out.out.2⟩
  · have d1 : W0.cell? ⟨p, 1, none⟩ = some (.int .i64 by_) := R0.out.cell 1
    have e1 : (by_ != -1) = true := by rw [bne_iff_ne]; omega
    have e2 : (by_ == -1) = false := by rw [beq_eq_false_iff_ne]; omega
    go_enter Try.func69, Try.ntmps69
    go_upto_region 1 with fail
    rw [HW.out, HP.out]
    clear HW HP
    go_wp2_with fail
    go_ret
    exact ⟨rfl, R0.out.out.2⟩
  · have d1 : W0.cell? ⟨p, 1, none⟩ = some (.int .i64 by_) := R0.out.cell 1
    have e1 : (by_ != -1) = true := by rw [bne_iff_ne]; omega
    have e2 : (by_ == -1) = false := by rw [beq_eq_false_iff_ne]; omega
    go_enter Try.func69, Try.ntmps69
    go_upto_region 1 with fail
    rw [HW.out, HP.out]
    clear HW HP
    go_wp2_with fail
    go_ret
    exact ⟨rfl, R0.out.out.2⟩

theorem old_ways (r : Ru) (now : Int) (rs : List Rc) (h : -1 ≤ r.ag) : (r.ag = -1 ∧ oldB r now rs = false) ∨ (0 ≤ r.ag ∧ rs = [] ∧ oldB r now rs = true) ∨ (0 ≤ r.ag ∧ ∃ n, ∃ h : n + 1 = rs.length, oldB r now rs = decide ((rs[n]'(by omega)).t + r.ag < now)) := by
  unfold oldB
  by_cases c : 0 ≤ r.ag
  · rw [decide_eq_true c, Bool.true_and]
    cases hr : rs with
    | nil => exact .inr (.inl ⟨c, rfl, rfl⟩)
    | cons x l =>
      refine .inr (.inr ⟨c, l.length, rfl, ?_⟩)
      rw [last_all (rs := x :: l) (n := l.length) rfl]
  · exact .inl ⟨by omega, by rw [decide_eq_false c]; rfl⟩

set_option maxRecDepth 100000 in
set_option maxHeartbeats 4000000 in
/-- keep.isTooOld. -/
theorem isTooOld_is (r : Ru) (now b : Int) (rs : List Rc) (N : Nat) (A : Option Addr) (c B : Nat) (X : Bool) (w : World) (hN : rs.length = N) (hm : N ≤ 9223372036854775807) (hr : -1 ≤ r.ag ∧ r.ag ≤ 1073741824) (ht : ∀ a ∈ rs, 0 ≤ a.t ∧ a.t ≤ 1099511627776) (hB : B ≤ w.heap.size) (h : RecsAt w B A rs) (hX : oldB r now rs = X) :
    Calls Try.prog 70 #[.agg #[.int .i64 b, .slice A N c], ruagg r, .int .i64 now] w fun e w' => e = .returned (.bool X) ∧ Below w.heap.size w w' := by
  have hway := old_ways r now rs hr.1
  rw [hX] at hway
  unfold ruagg
  obtain ⟨sb, by_, ag, co, gr⟩ := r
  dsimp only at hway hr ⊢
  have hD := Duo.new w 49 25 (sarr b A N c) (ruarr sb by_ ag co gr)
  have H := Lib.hid h
  obtain ⟨p, hp⟩ : ∃ p, w.heap.size = p := ⟨_, rfl⟩
  obtain ⟨W0, hW⟩ : ∃ W0, (w.alloc (.cells (sarr b A N c) 49)).alloc (.cells (ruarr sb by_ ag co gr) 25) = W0 := ⟨_, rfl⟩
  rw [hW, hp] at hD
  unfold sarr ruarr at hD hW
  unfold ruarr
  have D0 := Lib.hid hD
  have HW := Lib.hid hW
  have HP := Lib.hid hp
  clear hD hW hp h hX
  have n2 : (N : Int) < 9223372036854775808 := by omega
  rcases hway with ⟨rfl, rfl⟩ | ⟨h1, rfl, rfl⟩ | ⟨h1, n, hn, hx⟩
  · have d2 : W0.cell? ⟨p + 1, 2, none⟩ = some (.int .i64 (-1)) := D0.out.cell2 2
    clear ht hr
    go_enter Try.func70, Try.ntmps70
    go_upto_region 1 with fail
    rw [HW.out, HP.out]
    clear HW HP
    go_wp2_with fail
    go_ret
    exact ⟨rfl, D0.out.bel⟩
  · obtain rfl : N = 0 := by rw [← hN]; rfl
    have d2 : W0.cell? ⟨p + 1, 2, none⟩ = some (.int .i64 ag) := D0.out.cell2 2
    have d1 : W0.cell? ⟨p, 1, none⟩ = some (.slice A 0 c) := D0.out.cell1 1
    have e2 : (ag == -1) = false := by rw [beq_eq_false_iff_ne]; omega
    clear ht
    go_enter Try.func70, Try.ntmps70
    go_upto_region 1 with fail
    rw [HW.out, HP.out]
    clear HW HP
    go_wp2_with fail
    go_quiet (fail)
    go_wp2_with fail
    go_ret
    exact ⟨rfl, below_drewN D0.out.bel _⟩
  · obtain ⟨b0, o0, rfl, hb0, hc⟩ := H.out.some_ (by omega)
    have hr1 := (hc n (by omega)).keep (w' := W0) (fun i => D0.out.bel.cell (p := ⟨b0, i, none⟩) (by show b0 < _; omega))
    have ht1 := ht _ (List.getElem_mem (show n < rs.length by omega))
    have HX := Lib.hid hx
    have d2 : W0.cell? ⟨p + 1, 2, none⟩ = some (.int .i64 ag) := D0.out.cell2 2
    have d1 : W0.cell? ⟨p, 1, none⟩ = some (.slice (some ⟨b0, o0, none⟩) N c) := D0.out.cell1 1
    have e2 : (ag == -1) = false := by rw [beq_eq_false_iff_ne]; omega
    have e3 : ((N : Int) == 0) = false := by rw [beq_eq_false_iff_ne]; omega
    have e4 : (N == 0) = false := by rw [beq_eq_false_iff_ne]; omega
    have e5 : (N : Int) - 1 = (n : Int) := by omega
    have e6 : (n : Int) < (N : Int) := by omega
    clear ht hc hx H
    generalize rs[n]'(by omega) = a at hr1 HX ht1
    obtain ⟨xo, xt, xk, xb, xq, xg⟩ := a
    obtain ⟨_, c1, _, _, _, _⟩ := hr1
    dsimp only at c1 HX ht1
    obtain ⟨t1, t2⟩ := ht1
    obtain ⟨a1, a2⟩ := hr
    have w1 : IntKind.i64.wrap ((N : Int) - 1) = (n : Int) := by rw [e5]; exact IntWalk.i64_in _ ⟨by omega, by omega⟩
    have w2 : IntKind.i64.wrap (xt + ag) = xt + ag := IntWalk.i64_in _ ⟨by omega, by omega⟩
    clear hN hn hb0
    go_enter Try.func70, Try.ntmps70
    go_upto_region 1 with fail
    rw [HW.out, HP.out]
    clear HW HP
    go_wp2_with fail
    go_quiet (fail)
    go_wp2_with fail
    go_ret
    exact ⟨ret_bool HX.out.symm, below_drewN D0.out.bel _⟩
end Go.Proofs.Ythdefnfpjbpbkaa.Kpd
/- Package rec: how many bytes a record has. -/
namespace Go.Proofs.Ythdefnfpjbpbkaa
open Go.RowKit Go.Lib Rcd

set_option maxRecDepth 100000 in
set_option maxHeartbeats 2000000 in
theorem Size_parts (o t : Int) (k b : ByteArray) (q : Int) (g : Bool) (N : Nat) (E : Int) (w : World) (hE : mayE ⟨o, t, k.data.toList, b.data.toList, q, g⟩ = E) (hN : (E = 0 ∧ k.size ≤ 1024 ∧ b.size ≤ 1024 ∧ N = 25 + k.size + b.size) ∨ (¬ E = 0 ∧ N = 0)) :
    Calls Try.prog 82 #[.agg (rarr o t k b q g)] w fun e w' => e = .returned (.tuple #[.int .i64 (N : Int), .int .i64 E]) ∧ Below w.heap.size w w' := by
  have HC := Lib.hid (fun W => Check_parts o t k b q g E W hE)
  have R0 := Lib.hid (RBox.new w 46 (rarr o t k b q g))
  obtain ⟨W0, hW⟩ : ∃ W0, w.alloc (.cells (rarr o t k b q g) 46) = W0 := ⟨_, rfl⟩
  rw [hW] at R0
  unfold rarr at hW R0 HC ⊢
  have HW := Lib.hid hW
  clear hW hE
  rcases hN with ⟨rfl, m1, m2, rfl⟩ | ⟨h0, rfl⟩
  · go_enter Try.func82, Try.ntmps82
    go_upto_region 1 with fail
    rw [HW.out]
    clear HW
    generalize Value.agg _ = v1
    obtain ⟨p, hp⟩ : ∃ p, w.heap.size = p := ⟨_, rfl⟩
    rw [hp] at R0 ⊢
    clear hp
    have hld := R0.out.load rfl
    go_wp2_with (refine wpList_load_any (by rfl) 46 (.tmp 1) rfl p 0 rfl _ hld ?_; simp only [Act.put])
    refine (HC.out _).mono ?_
    rintro e w1 ⟨rfl, hb1⟩
    have R1 := Lib.hid (R0.out.below hb1)
    have d2 : w1.cell? ⟨p, 2, none⟩ = some (.string k) := R1.out.cell 2
    have d3 : w1.cell? ⟨p, 3, none⟩ = some (.string b) := R1.out.cell 3
    clear R0 hb1 hld HC
    go_wp2_with fail
    go_ret2
    refine ⟨?_, R1.out.out.2⟩
    simp
  · have h0b : (E == 0) = false := by rw [beq_eq_false_iff_ne]; exact h0
    have h0c : (E != 0) = true := by rw [bne_iff_ne]; exact h0
    rw [show ((0 : Nat) : Int) = 0 from rfl]
    go_enter Try.func82, Try.ntmps82
    go_upto_region 1 with fail
    rw [HW.out]
    clear HW
    generalize Value.agg _ = v1
    obtain ⟨p, hp⟩ : ∃ p, w.heap.size = p := ⟨_, rfl⟩
    rw [hp] at R0 ⊢
    clear hp
    have hld := R0.out.load rfl
    go_wp2_with (refine wpList_load_any (by rfl) 46 (.tmp 1) rfl p 0 rfl _ hld ?_; simp only [Act.put])
    refine (HC.out _).mono ?_
    rintro e w1 ⟨rfl, hb1⟩
    have R1 := Lib.hid (R0.out.below hb1)
    clear R0 hb1 hld HC
    go_wp2_with fail
    go_ret2
    exact ⟨rfl, R1.out.out.2⟩
end Go.Proofs.Ythdefnfpjbpbkaa
/- How many bytes a record that may be has. -/
namespace Go.Proofs.Ythdefnfpjbpbkaa
open Go.RowKit Go.Lib Rcd

theorem RecSize_good (r : Rc) (n : Nat) (w : World) (h : mayB r = true) (hn : (recL r).length = n) :
    Calls Try.prog 82 #[ragg r] w fun e w' => e = .returned (.tuple #[.int .i64 (n : Int), .int .i64 0]) ∧ Below w.heap.size w w' := by
  obtain ⟨_, _, _, _, h5, h6, _⟩ := (may_iff _).1 h
  subst hn
  have hE : mayE r = 0 := by unfold mayE; rw [h]; rfl
  exact Size_parts r.o r.t (str r.k) (str r.b) r.q r.g (recL r).length 0 w (by rw [str_data, str_data]; exact hE) (.inl ⟨rfl, by rw [str_size]; exact h5, by rw [str_size]; exact h6, by rw [str_size, str_size, rec_len]⟩)
end Go.Proofs.Ythdefnfpjbpbkaa
/- Package seg: how many bytes the records of a segment have. -/
namespace Go.Proofs.Ythdefnfpjbpbkaa
open Go.RowKit Go.Lib Rcd

set_option maxRecDepth 100000 in
set_option maxHeartbeats 8000000 in
/-- seg.Size. -/
theorem SegSize_is (b : Int) (rs : List Rc) (N : Nat) (A : Option Addr) (c B : Nat) (n : Nat) (E : Int) (w : World) (hN : rs.length = N) (hm : N ≤ 9223372036854775807) (hcap : N ≤ c) (hB : B ≤ w.heap.size) (h : RecsAt w B A rs) (hE : segE b rs = E)
    (hn : (E = 0 ∧ (allL rs).length = n) ∨ (¬ E = 0 ∧ n = 0)) :
    Calls Try.prog 79 #[.agg #[.int .i64 b, .slice A N c]] w fun e w' => e = .returned (.tuple #[.int .i64 (n : Int), .int .i64 E]) ∧ Below w.heap.size w w' := by
  have R0 := Lib.hid (RBox.new w 49 (sarr b A N c))
  have HC := Lib.hid (fun W (hb : Below w.heap.size w W) => SegCheck_is b rs N A c B E W hN hm hcap (Nat.le_trans hB hb.size) (h.below (hb.mono hB)) hE)
  obtain ⟨p, hp⟩ : ∃ p, w.heap.size = p := ⟨_, rfl⟩
  obtain ⟨W0, hW⟩ : ∃ W0, w.alloc (.cells (sarr b A N c) 49) = W0 := ⟨_, rfl⟩
  rw [hW, hp] at R0
  unfold sarr at R0 hW
  have HW := Lib.hid hW
  have HP := Lib.hid hp
  have H := Lib.hid (h.mono hB)
  have HNN := Lib.hid hN
  clear hW hp h hN hB
  rcases hn with ⟨rfl, hn⟩ | ⟨h0, rfl⟩
  · have hseg := segE_zero hE
    have HS := Lib.hid hseg
    have HZ := Lib.hid (seg_size hseg)
    have hle := seg_len hseg
    rw [HNN.out] at hle
    have HN := Lib.hid hn
    clear hE hseg hn
    go_enter Try.func79, Try.ntmps79
    go_upto_region 1 with fail
    rw [HW.out, HP.out]
    clear HW
    have hld := R0.out.loadS rfl
    go_wp2_with (refine wpList_load_any (by rfl) 49 (.tmp 1) rfl p 0 rfl _ hld ?_; simp only [Act.put])
    refine (HC.out _ R0.out.out.2).mono ?_
    rintro e w1 ⟨rfl, hb1⟩
    have R1 := Lib.hid (R0.out.below hb1)
    clear R0 hb1 hld HC
    have d1 : w1.cell? ⟨p, 1, none⟩ = some (.slice A N c) := R1.out.cell 1
    go_wp2_with fail
    clear d1
    go_loopw [5, 18] (fun v i wr => ∃ k a : Nat, k ≤ N ∧ (allL (rs.take k)).length = a ∧ v = .int .i64 (a : Int) ∧ i = .int .i64 (k : Int) ∧ RBox w p #[.int .i64 b, .slice A N c] wr) (fun _ i _ => N - (RowKit.intOf i).toNat)
    case atStart => exact ⟨0, 0, Nat.zero_le _, rfl, rfl, rfl, R1.out⟩
    case round =>
      obtain ⟨k, a, hk, ha, rfl, rfl, hbx⟩ := hrel
      have HA := Lib.hid ha
      have R := Lib.hid hbx
      clear hbx R1 ha
      by_cases hlt : k < N
      · have hlr : k < rs.length := by rw [HNN.out]; exact hlt
        obtain ⟨b0, o0, rfl, hb0, hc⟩ := (H.out.below R.out.out.2).some_ (by omega)
        have hr := hc k hlr
        have hmay := seg_may HS.out _ (List.getElem_mem hlr)
        obtain ⟨z, hz⟩ : ∃ z, (recL rs[k]).length = z := ⟨_, rfl⟩
        have HRS := Lib.hid (fun W => RecSize_good rs[k] z W hmay hz)
        have HA2 : Hid ((allL (rs.take (k + 1))).length = a + z) := by show _ = _; rw [all_next hlr, HA.out, hz]
        have hsum : a + z ≤ 420000 := by
          rw [← HA2.out]
          exact Nat.le_trans (all_take_le _ _) HZ.out
        clear HA hc hmay hz
        unfold ragg at HRS
        generalize rs[k] = r at hr HRS
        obtain ⟨o, t, key, bod, q, g⟩ := r
        obtain ⟨c0, c1, c2, c3, c4, c5⟩ := hr
        dsimp only at c0 c1 c2 c3 c4 c5 HRS
        generalize str key = ks at c2 HRS
        generalize str bod = bs at c3 HRS
        have e1 : (k : Int) < (N : Int) := by omega
        have hpw : w.heap.size ≤ p := Nat.le_of_eq HP.out
        have hD := Duo.more R.out hpw 46 zcells
        obtain ⟨g9, hg9⟩ : ∃ g9, wr.heap.size = g9 := ⟨_, rfl⟩
        obtain ⟨W4, hW4⟩ : ∃ W4, wr.alloc (.cells zcells 46) = W4 := ⟨_, rfl⟩
        rw [hg9, hW4] at hD
        have HBN := Lib.hid hD.out.2.1
        have D5 := Lib.hid (hD.row2 (rarr o t ks bs q g))
        unfold zcells at hW4
        have HW4 := Lib.hid hW4
        clear hD hW4 hlr R
        unfold rarr at D5 HRS
        go_upto_region 8 with (rw [HW4.out]; refine wpList_store_whole rfl 46 (.tmp 7) (.tmp 21) rfl g9 _ rfl rfl zcells HBN.out info_rec rfl (by simp [Value.oneCell']) ?_; simp only [Act.put])
        clear HW4 HBN c0 c1 c2 c3 c4 c5 hg9
        generalize World.setRow _ _ _ = w5 at D5 ⊢
        have hld := D5.out.box2.load rfl
        go_wp2_with (refine wpList_load_any (by rfl) 46 (.tmp 7) rfl g9 0 rfl _ hld ?_; simp only [Act.put])
        refine (HRS.out _).mono ?_
        rintro e w6 ⟨rfl, hb6⟩
        have R6 := Lib.hid (D5.out.box1.below hb6)
        clear D5 hb6 hld HRS
        have e2 : (a : Int) + (z : Int) ≤ 420000 := by omega
        go_wp2_with fail
        go_roundw
        case rel => exact ⟨k + 1, a + z, hlt, HA2.out, by go_num, by go_num, R6.out⟩
        case measure => simp [RowKit.intOf]; omega
      · obtain rfl : k = N := by omega
        obtain rfl : a = n := by
          rw [← HA.out, ← HN.out, List.take_of_length_le (by rw [HNN.out]; exact Nat.le_refl _)]
        go_wp2_with fail
        go_ret2
        exact ⟨rfl, R.out.out.2⟩
  · have h0b : (E == 0) = false := by rw [beq_eq_false_iff_ne]; exact h0
    have h0c : (E != 0) = true := by rw [bne_iff_ne]; exact h0
    rw [show ((0 : Nat) : Int) = 0 from rfl]
    go_enter Try.func79, Try.ntmps79
    go_upto_region 1 with fail
    rw [HW.out, HP.out]
    clear HW
    have hld := R0.out.loadS rfl
    go_wp2_with (refine wpList_load_any (by rfl) 49 (.tmp 1) rfl p 0 rfl _ hld ?_; simp only [Act.put])
    refine (HC.out _ R0.out.out.2).mono ?_
    rintro e w1 ⟨rfl, hb1⟩
    have R1 := Lib.hid (R0.out.below hb1)
    clear R0 hb1 hld HC
    go_wp2_with fail
    go_ret2
    exact ⟨rfl, R1.out.out.2⟩
end Go.Proofs.Ythdefnfpjbpbkaa
/- Package keep: how many bytes the records of segments have together. -/
namespace Go.Proofs.Ythdefnfpjbpbkaa.Kpd
open Go.RowKit Go.Lib Rcd

set_option maxRecDepth 100000 in
set_option maxHeartbeats 8000000 in
/-- keep.sizeOf, of segments that may be. -/
theorem sizeOf_is (l : List Sp) (N : Nat) (A : Option Addr) (c B n : Nat) (w : World) (hN : l.length = N) (hm : N ≤ 1000000) (hB : B ≤ w.heap.size) (h : SegsAt w B A l) (hs : ∀ s ∈ l, segB s.b s.rs = true) (hn : sizeL l = n) :
    Calls Try.prog 68 #[.slice A N c] w fun e w' => e = .returned (.int .i64 (n : Int)) ∧ Below w.heap.size w w' := by
  have H := Lib.hid (h.mono hB)
  have HS := Lib.hid hs
  have HN := Lib.hid hN
  have HZ := Lib.hid hn
  have HL := Lib.hid (show sizeL l ≤ 420000000000 from by have := size_le hs; omega)
  clear h hs hN hn hB
  go_enter Try.func68, Try.ntmps68
  go_wp2_with fail
  go_loopw [3, 10] (fun v i wr => ∃ k a : Nat, k ≤ N ∧ sizeL (l.take k) = a ∧ v = .int .i64 (a : Int) ∧ i = .int .i64 (k : Int) ∧ Below w.heap.size w wr) (fun _ i _ => N - (RowKit.intOf i).toNat)
  case atStart => exact ⟨0, 0, Nat.zero_le _, rfl, rfl, rfl, Below.refl _ _⟩
  case round =>
    obtain ⟨k, a, hk, ha, rfl, rfl, hbl⟩ := hrel
    have HA := Lib.hid ha
    have HB := Lib.hid hbl
    clear hbl ha
    by_cases hlt : k < N
    · have hlr : k < l.length := by rw [HN.out]; exact hlt
      obtain ⟨b0, o0, rfl, hb0, hc⟩ := (H.out.below HB.out).some_ (by omega)
      obtain ⟨A1, c1, hsg⟩ := hc k hlr
      obtain ⟨z, hz⟩ : ∃ z, (allL l[k].rs).length = z := ⟨_, rfl⟩
      have hseg := HS.out _ (List.getElem_mem hlr)
      have HA2 : Hid (sizeL (l.take (k + 1)) = a + z) := by show _ = _; rw [size_next hlr, HA.out, hz]
      have hsum : a + z ≤ 420000000000 := by
        rw [← HA2.out]
        exact Nat.le_trans (size_take_le _ _) HL.out
      clear HA hc
      generalize l[k] = s at hsg hz hseg
      obtain ⟨sb, rs⟩ := s
      obtain ⟨s0, s1, hA, hcap, hlim⟩ := hsg
      dsimp only at s0 s1 hA hcap hlim hz hseg
      obtain ⟨M, hM⟩ : ∃ M, rs.length = M := ⟨_, rfl⟩
      rw [hM] at s1 hcap hlim
      have HSZ := Lib.hid (fun W (hb : Below wr.heap.size wr W) => SegSize_is sb rs M A1 c1 w.heap.size z 0 W hM (by omega) hcap (Nat.le_trans HB.out.size hb.size) (hA.below (hb.mono HB.out.size)) (segE_yes hseg) (.inl ⟨rfl, hz⟩))
      have hld := load_seg_at s0 s1
      obtain ⟨g9, W4, hg9, hW4, hbn, hsb, hbx, hbw⟩ := seg_box HB.out (sarr sb A1 M c1)
      have HBN := Lib.hid hbn
      have HBX := Lib.hid hbx
      have HBW := Lib.hid hbw
      unfold szero at hW4
      unfold sarr at HBX HBW
      have HW4 := Lib.hid hW4
      clear hbn hsb hbx hbw hW4 hlr hseg hz hM hA hcap
      have e1 : (k : Int) < (N : Int) := by omega
      go_upto_region 5 with (first | (refine wpList_load_any (by rfl) 49 (.tmp 12) rfl b0 (o0 + k * 2) rfl _ hld ?_; simp only [Act.put]) | (rw [HW4.out]; refine wpList_store_whole rfl 49 (.tmp 5) (.tmp 13) rfl g9 _ rfl rfl szero HBN.out info_seg rfl (by simp [Value.oneCell']) ?_; simp only [Act.put]))
      clear HW4 HBN s0 s1 hg9 hld
      generalize World.setRow _ _ _ = w5 at HBX HBW ⊢
      have hld := HBX.out.loadS rfl
      go_wp2_with (refine wpList_load_any (by rfl) 49 (.tmp 5) rfl g9 0 rfl _ hld ?_; simp only [Act.put])
      refine (HSZ.out _ HBW.out).mono ?_
      rintro e w6 ⟨rfl, hb6⟩
      have HB6 := Lib.hid (bel_step HBX.out.out.2 hb6)
      clear HBX HBW hb6 hld HSZ HB
      have e2 : (a : Int) + (z : Int) ≤ 420000000000 := by omega
      go_wp2_with fail
      go_roundw
      case rel => exact ⟨k + 1, a + z, hlt, HA2.out, by go_num, by go_num, HB6.out⟩
      case measure => simp [RowKit.intOf]; omega
    · obtain rfl : k = N := by omega
      obtain rfl : a = n := by
        rw [← HA.out, ← HZ.out, List.take_of_length_le (by rw [HN.out]; exact Nat.le_refl _)]
      go_wp2_with fail
      go_ret
      exact ⟨rfl, HB.out⟩
end Go.Proofs.Ythdefnfpjbpbkaa.Kpd
