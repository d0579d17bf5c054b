/- Texts of the proof, part 7: KdRFold, FdPred, FdDelete. -/
import Derived.Deep.CutRange
import Derived.BigQuiet
import Derived.Deep.RegionLaw
import Derived.Deep.MidRow
import Derived.Test.YthdefnfpjbpbkaaX06
/- The document's own answer: segments with the last of each key alone. -/
namespace Go.Proofs.Ythdefnfpjbpbkaa.Kpd
open Go.RowKit Go.Lib Rcd

/-- What segments are when they are folded. -/
def foldR (r : Ru) (now : Int) (l : List Sp) (u : Sp) : List Sp := if r.co then foldC r.gr now l u else l ++ [u]
def ngF (gr now : Int) (all : List Rc) (x : Rc) : Bool := !goesF gr now all x
theorem shut_next {gr now : Int} {all : List Rc} {l : List Sp} {k : Nat} (h : k < l.length) : shutF gr now all (l.take (k + 1)) = if (l[k].rs.filter (ngF gr now all)).isEmpty then shutF gr now all (l.take k) else shutF gr now all (l.take k) ++ [⟨l[k].b, l[k].rs.filter (ngF gr now all)⟩] := by
  unfold shutF
  rw [List.take_succ_eq_append_getElem h, List.map_append, List.filter_append]
  show _ ++ List.filter _ [keptF gr now all l[k]] = _
  rw [List.filter_cons]
  show _ ++ (if (!(l[k].rs.filter (ngF gr now all)).isEmpty) = true then _ else _) = _
  cases (l[k].rs.filter (ngF gr now all)).isEmpty with
  | true => simp
  | false => rfl
theorem filter_next {p : Rc → Bool} {rs : List Rc} {q : Nat} (h : q < rs.length) : (rs.take (q + 1)).filter p = if p rs[q] then (rs.take q).filter p ++ [rs[q]] else (rs.take q).filter p := by
  rw [List.take_succ_eq_append_getElem h, List.filter_append, List.filter_cons]
  cases p rs[q] <;> simp
theorem any_next {p : Rc → Bool} {l : List Rc} {j : Nat} (h : j < l.length) : (l.take (j + 1)).any p = ((l.take j).any p || p l[j]) := by
  rw [List.take_succ_eq_append_getElem h, List.any_append]; simp
theorem ret_bool1 {a b : Bool} (h : a = b) : Value.bool a = Value.bool b := by rw [h]
/-- Is y of x's key, and later? -/
def sameB (x y : Rc) : Bool := !x.k.isEmpty && (y.k == x.k && decide (x.o < y.o))
theorem same_any (x : Rc) (l : List Rc) : l.any (sameB x) = (!x.k.isEmpty && l.any (fun y => y.k == x.k && decide (x.o < y.o))) := by
  induction l with
  | nil => simp
  | cons y l ih =>
    rw [List.any_cons, ih, List.any_cons]
    unfold sameB
    cases x.k.isEmpty <;> simp
theorem goes_any (gr now : Int) (all : List Rc) (x : Rc) : goesF gr now all x = ((x.g && decide (x.t + gr < now)) || all.any (sameB x)) := by
  unfold goesF
  rw [same_any]

set_option maxRecDepth 100000 in
set_option maxHeartbeats 16000000 in
/-- fairwayref13.Fold, of what may be. -/
theorem RFold_is (l : List Sp) (u : Sp) (r : Ru) (now : Int) (n N F : Nat) (A : Option Addr) (c B : Nat) (w : World) (hn : l.length = n) (hN : n + 1 = N) (hB : B ≤ w.heap.size) (h : SegsAt w B A (l ++ [u])) (h1 : rowB (l ++ [u]) = true) (h2 : ruB r = true) (hF : (foldR r now l u).length = F) :
    Calls Try.prog 11 #[.slice A N c, ruagg r, .int .i64 now] w fun e w' => ∃ A' c' xs, e = .returned (.slice A' F c') ∧ OwnS w' w.heap.size (.slice A' F c') (foldR r now l u) xs ∧ Below w.heap.size w w' := by
  have hlen : (l ++ [u]).length = N := by rw [List.length_append, hn]; exact hN
  have hrow := row_pairs.1 h1
  have hN201 : N ≤ 201 := by rw [← hlen]; exact hrow.1.2.1
  obtain ⟨i0, hi, hz0, hz1, hz2⟩ := info_parts info_more
  obtain ⟨i1, hi1, hy0, hy1, hy2⟩ := info_parts info_smore
  have hru := ru_yes h2
  unfold ruagg
  obtain ⟨sb, by_, ag, co, gr⟩ := r
  dsimp only at hru ⊢
  have HH := Lib.hid (h.mono hB)
  have HLN := Lib.hid hlen
  have HFF := Lib.hid hF
  have R0 := Lib.hid (RBox.new w 25 (ruarr sb by_ ag co gr))
  obtain ⟨p, hp⟩ : ∃ p, w.heap.size = p := ⟨_, rfl⟩
  obtain ⟨W0, hW⟩ : ∃ W0, w.alloc (.cells (ruarr sb by_ ag co gr) 25) = W0 := ⟨_, rfl⟩
  rw [hW, hp] at R0
  unfold ruarr at R0 hW ⊢
  have HW := Lib.hid hW
  have HP := Lib.hid hp
  clear h hW hp hB hlen hF
  cases co with
  | false =>
    have HC := Lib.hid (RCopySegs_is (l ++ [u]) N A c w.heap.size W0 HLN.out (by omega) R0.out.out.2.size (HH.out.below R0.out.out.2))
    have d3 : W0.cell? ⟨p, 3, none⟩ = some (.bool false) := R0.out.cell 3
    have hFN : F = N := by rw [← HFF.out, ← HLN.out]; rfl
    subst hFN
    go_enter Try.func11, Try.ntmps11
    go_upto_region 1 with fail
    rw [HW.out, HP.out]
    clear HW HP
    go_wp2_with fail
    refine HC.out.mono ?_
    rintro e w1 ⟨A', c', xs, rfl, ho, hb1⟩
    have HO := Lib.hid (ho.mono R0.out.out.2.size)
    have B1 := Lib.hid (bel_step R0.out.out.2 hb1)
    clear ho hb1 R0 HC d3
    go_wp2_with fail
    go_ret
    exact ⟨A', c', xs, rfl, HO.out, B1.out⟩
  | true =>
    obtain ⟨all, hall⟩ : ∃ all, recsOf (l ++ [u]) = all := ⟨_, rfl⟩
    obtain ⟨M, hM⟩ : ∃ M, all.length = M := ⟨_, rfl⟩
    have hM200 : M ≤ 200 := by rw [← hM, ← hall]; exact hrow.1.2.2
    have HC := Lib.hid (fun W (hb : Below w.heap.size w W) => RRecs_is (l ++ [u]) N M A c w.heap.size W HLN.out (by omega) (by rw [hall]; exact hM) (by omega) hb.size (HH.out.below hb))
    rw [hall] at HC
    have HALL := Lib.hid hall
    have HM := Lib.hid hM
    have HSG := Lib.hid hrow.2.1
    have HGR := Lib.hid hru.2.2.2
    have HNN := Lib.hid hN
    have HNL := Lib.hid hn
    obtain ⟨b1, o1, rfl, hb1, hcl⟩ := HH.out.some_ (by rw [HLN.out]; omega)
    have HCL := Lib.hid hcl
    have e5 : (N : Int) - 1 = (n : Int) := by omega
    have d3 : W0.cell? ⟨p, 3, none⟩ = some (.bool true) := R0.out.cell 3
    have hn201 : n ≤ 200 := by omega
    clear hall hM hrow hru h1 h2 hcl hN hn hN201
    go_enter Try.func11, Try.ntmps11
    go_upto_region 1 with fail
    rw [HW.out, HP.out]
    clear HW HP
    go_wp2_with fail
    refine (HC.out W0 R0.out.out.2).mono ?_
    rintro e w3 ⟨AA, cc, rfl, hra, hb3⟩
    have HRA := Lib.hid hra
    have R3 := Lib.hid (R0.out.below hb3)
    clear hra hb3 R0 HC d3
    go_wp2_with fail
    go_loopw [8, 9] (fun v i wr => ∃ (k : Nat) (xs : List Sx), k ≤ n ∧ i = .int .i64 (k : Int) ∧ OwnS wr w3.heap.size v (shutF gr now all (l.take k)) xs ∧ Below w3.heap.size w3 wr) (fun _ i _ => n - (RowKit.intOf i).toNat)
    case atStart => exact ⟨0, [], Nat.zero_le _, rfl, .nil _ _, Below.refl _ _⟩
    case round =>
      obtain ⟨k, xs, hk, rfl, hown, hbl⟩ := hrel
      obtain ⟨V, hV⟩ : ∃ V, V = wr := ⟨_, rfl⟩
      rw [← hV] at hown hbl ⊢
      clear hV
      have HO := Lib.hid hown
      have HB := Lib.hid hbl
      clear hown hbl
      by_cases hlt : k < n
      · have hlr : k < l.length := by rw [HNL.out]; exact hlt
        have hlr2 : k < (l ++ [u]).length := by rw [List.length_append]; omega
        have hle : (l ++ [u])[k] = l[k] := List.getElem_append_left hlr
        obtain ⟨A1, c1, hsg⟩ := HCL.out k hlr2
        have hseg := HSG.out _ (List.mem_append_left _ (List.getElem_mem hlr))
        have hsn := shut_next (gr := gr) (now := now) (all := all) hlr
        rw [hle] at hsg
        clear hle hlr2
        generalize l[k] = s at hsg hseg hsn
        obtain ⟨ssb, srs⟩ := s
        obtain ⟨s0, s1, hA, _, hlim⟩ := hsg
        dsimp only at s0 s1 hA hlim hseg hsn
        obtain ⟨M1, hM1⟩ : ∃ M1, srs.length = M1 := ⟨_, rfl⟩
        rw [hM1] at s1
        have hM1b : M1 ≤ 200 := by rw [← hM1]; exact seg_len hseg
        have HS01 := Lib.hid (And.intro s0 s1)
        have HA1 := Lib.hid hA
        have HSE := Lib.hid hseg
        have HSN := Lib.hid hsn
        have HM1 := Lib.hid hM1
        have HLIM := Lib.hid hlim
        have HBW := Lib.hid (fun W (hb : Below w3.heap.size w3 W) => R3.out.out.2.trans (hb.mono R3.out.out.2.size))
        have t0 := ((HBW.out V HB.out).cell (p := ⟨b1, o1 + k * 2, none⟩) hb1).trans s0
        have e1 : (k : Int) < (n : Int) := by omega
        have e6 : (k : Int) < (N : Int) := by omega
        have hbx := RBox.new V 49 #[.int .i64 ssb, .slice none 0 0]
        obtain ⟨g, hg⟩ : ∃ g, V.heap.size = g := ⟨_, rfl⟩
        obtain ⟨w5, hw5⟩ : ∃ w5, V.alloc (.cells #[.int .i64 ssb, .slice none 0 0] 49) = w5 := ⟨_, rfl⟩
        rw [hg, hw5] at hbx
        have G5 := Lib.hid hbx
        have HGV := Lib.hid hg
        have HW5 := Lib.hid hw5
        clear hbx hw5 hg s0 s1 hA hlim hseg hsn hM1 hlr
        go_upto_region 9 with fail
        rw [HW5.out, HGV.out]
        clear HW5 t0
        go_wp2_with fail
        go_loopw [11] (fun i wr => ∃ (q cnt : Nat) (v : Value), q ≤ M1 ∧ i = .int .i64 (q : Int) ∧ RBox V g #[.int .i64 ssb, v] wr ∧ ((srs.take q).filter (ngF gr now all)).length = cnt ∧ wr.ownsRow (g + 1) 46 6 v cnt (flat ((srs.take q).filter (ngF gr now all)))) (fun i _ => M1 - (RowKit.intOf i).toNat)
        case atStart => exact ⟨0, 0, _, Nat.zero_le _, rfl, G5.out, rfl, World.ownsRow_nil _ _ _ _⟩
        case round =>
          obtain ⟨q, cnt, v, hq, rfl, hgx, hcnt, hown⟩ := hrel
          obtain ⟨U, hU⟩ : ∃ U, U = wr := ⟨_, rfl⟩
          rw [← hU] at hgx hown ⊢
          clear hU
          have G := Lib.hid hgx
          have HOV := Lib.hid hown
          have HCN := Lib.hid hcnt
          have BU := Lib.hid (bel_step HB.out hgx.out.2)
          clear hgx hown hcnt G5
          have t1 := ((HBW.out U BU.out).cell (p := ⟨b1, o1 + k * 2 + 1, none⟩) hb1).trans HS01.out.2
          by_cases hqt : q < M1
          · have hqr : q < srs.length := by rw [HM1.out]; exact hqt
            obtain ⟨b2, o2, rfl, hb2, hc2⟩ := (HA1.out.below (HBW.out U BU.out)).some_ (by omega)
            obtain ⟨c0, c1', c2, c3, c4, c5⟩ := hc2 q hqr
            have hmay := (may_iff _).1 (seg_may HSE.out _ (List.getElem_mem hqr))
            have hfn := filter_next (p := ngF gr now all) hqr
            have hng : ngF gr now all srs[q] = !((srs[q].g && decide (srs[q].t + gr < now)) || all.any (sameB srs[q])) := by unfold ngF; rw [goes_any]
            have y3 := hmay.2.2.1
            have y4 := hmay.2.2.2.1
            clear hc2 hmay
            generalize srs[q] = x at c0 c1' c2 c3 c4 c5 hfn hng y3 y4
            obtain ⟨xo, xt, xk, xb, xq, xg⟩ := x
            dsimp only at c0 c1' c2 c3 c4 c5 hng y3 y4
            obtain ⟨ks, hks⟩ : ∃ ks, str xk = ks := ⟨_, rfl⟩
            obtain ⟨bs, hbs⟩ : ∃ bs, str xb = bs := ⟨_, rfl⟩
            have hfc : rcells ⟨xo, xt, xk, xb, xq, xg⟩ = [.int .i64 xo, .int .i64 xt, .string ks, .string bs, .int .i64 xq, .bool xg] := by rw [← hks, ← hbs]; rfl
            rw [hks] at c2
            rw [hbs] at c3
            have HKS := Lib.hid (show ks.toList = xk by rw [← hks, str_toList])
            have HFC := Lib.hid hfc
            have HFN := Lib.hid hfn
            have HNG := Lib.hid hng
            have w2 : IntKind.i64.wrap (xt + gr) = xt + gr := IntWalk.i64_in _ ⟨by have := HGR.out.1; omega, by have := HGR.out.2; omega⟩
            have f0 : 0 ≤ xt + gr := by have := HGR.out.1; omega
            have f00 : xt + gr ≤ 2199023255552 := by have := HGR.out.2; omega
            have e7 : (q : Int) < (M1 : Int) := by omega
            obtain ⟨b9, W4, hg9, hW4, hbn, hbx, hbw⟩ := box_new (Below.refl U.heap.size U) (rarr xo xt ks bs xq xg)
            have HBN := Lib.hid hbn
            have X6 := Lib.hid hbx
            unfold zcells at hW4
            unfold rarr at X6
            have HW4 := Lib.hid hW4
            clear hbn hbx hbw hW4 hks hbs hfc hfn hng y3 y4 hqr
            go_upto_region 13 with (rw [HW4.out]; refine wpList_store_whole rfl 46 (.tmp 12) (.tmp 52) rfl b9 _ rfl rfl zcells HBN.out info_rec rfl (by simp [Value.oneCell']) ?_; simp only [Act.put])
            clear HW4 HBN c0 c1' c2 c3 c4 c5 hg9 t1
            generalize World.setRow _ _ _ = w6 at X6 ⊢
            have B6 := Lib.hid (bel_step BU.out X6.out.out.2)
            have x5 : w6.cell? ⟨b9, 5, none⟩ = some (.bool xg) := X6.out.cell 5
            have x1 : w6.cell? ⟨b9, 1, none⟩ = some (.int .i64 xt) := X6.out.cell 1
            have p4 : w6.cell? ⟨p, 4, none⟩ = some (.int .i64 gr) := (R3.out.below B6.out).cell 4
            obtain ⟨G0, hG0⟩ : ∃ G0, (xg && decide (xt + gr < now)) = G0 := ⟨_, rfl⟩
            rw [hG0] at HNG
            go_cut [13] from 53 to 63 (fun s13 wx => s13 = .bool G0 ∧ wx = w6)
            case first =>
              cases xg with
              | true =>
                rw [Bool.true_and] at hG0
                go_wp2_with fail
                go_meet
                first | exact ⟨ret_bool1 hG0, rfl⟩ | exact ⟨rfl, rfl⟩
              | false =>
                go_wp2_with fail
                go_meet
                first | exact ⟨ret_bool1 hG0, rfl⟩ | exact ⟨rfl, rfl⟩
            case rest =>
              obtain ⟨rfl, hwx⟩ := hcut
              have hwy := hwx.symm
              clear hwx
              subst hwy
              clear x5 x1 p4 hG0 w2 f0 f00
              go_wp2_with fail
              go_loopw [13, 14] (fun a i wr => ∃ j : Nat, j ≤ M ∧ i = .int .i64 (j : Int) ∧ a = .bool (G0 || (all.take j).any (sameB ⟨xo, xt, xk, xb, xq, xg⟩)) ∧ Below w6.heap.size w6 wr) (fun _ i _ => M - (RowKit.intOf i).toNat)
              case atStart => exact ⟨0, Nat.zero_le _, rfl, ret_bool1 (by simp), Below.refl _ _⟩
              case round =>
                obtain ⟨j, hj, rfl, rfl, hbj⟩ := hrel
                have BJ := Lib.hid hbj
                clear hbj
                obtain ⟨a0, ha0⟩ : ∃ a0, (G0 || (all.take j).any (sameB ⟨xo, xt, xk, xb, xq, xg⟩)) = a0 := ⟨_, rfl⟩
                by_cases hjt : j < M
                · have hjr : j < all.length := by rw [HM.out]; exact hjt
                  have hnx : (G0 || (all.take (j + 1)).any (sameB ⟨xo, xt, xk, xb, xq, xg⟩)) = (a0 || sameB ⟨xo, xt, xk, xb, xq, xg⟩ all[j]) := by rw [any_next hjr, ← Bool.or_assoc, ha0]
                  rw [ha0]
                  have hbb := bel_step B6.out BJ.out
                  obtain ⟨ba, oa, rfl, hba, hca⟩ := (HRA.out.below hbb).some_ (by omega)
                  have y0 := (hca j hjr).c0
                  have y2 := (hca j hjr).c2
                  clear hca ha0
                  generalize all[j] = y at y0 y2 hnx
                  obtain ⟨yo, yt, yk, yb, yq, yg⟩ := y
                  dsimp only at y0 y2
                  obtain ⟨ys, hys⟩ : ∃ ys, str yk = ys := ⟨_, rfl⟩
                  rw [hys] at y2
                  have hyl : ys.toList = yk := by rw [← hys, str_toList]
                  have HNX := Lib.hid hnx
                  have HYL := Lib.hid hyl
                  have x0 : wr.cell? ⟨b9, 0, none⟩ = some (.int .i64 xo) := (X6.out.below BJ.out).cell 0
                  have x2 : wr.cell? ⟨b9, 2, none⟩ = some (.string ks) := (X6.out.below BJ.out).cell 2
                  have e8 : (j : Int) < (M : Int) := by omega
                  clear hjr hnx hbb hys hyl
                  by_cases hk0 : xk = []
                  · have g1 : (ks.toList == []) = true := by rw [HKS.out, hk0]; rfl
                    have g2 : ks = ByteArray.empty := by rw [← data_str ks, ← toList_data_eq, HKS.out, hk0]; rfl
                    have HNX2 : Hid ((G0 || (all.take (j + 1)).any (sameB ⟨xo, xt, xk, xb, xq, xg⟩)) = a0) := by
                      show _ = _
                      rw [HNX.out]
                      unfold sameB
                      rw [hk0]; simp
                    clear hk0
                    go_upto_region 17 with fail
                    go_quiet (fail)
                    go_wp2_with fail
                    go_roundw
                    case rel => exact ⟨j + 1, hjt, by go_num, ret_bool1 HNX2.out.symm, below_drewN BJ.out _⟩
                    case measure => simp [RowKit.intOf]; omega
                  · have g1 : (ks.toList == []) = false := by rw [HKS.out, beq_eq_false_iff_ne]; exact hk0
                    have g2 : ¬ ks = ByteArray.empty := fun e => hk0 (by rw [← HKS.out, e, ByteArray.toList_eq]; rfl)
                    by_cases hke : yk = xk
                    · have g3 : (ys.toList == ks.toList) = true := by rw [HKS.out, HYL.out, hke]; simp
                      by_cases hoo : xo < yo
                      · have g4 : decide (xo < yo) = true := decide_eq_true hoo
                        have HNX2 : Hid ((G0 || (all.take (j + 1)).any (sameB ⟨xo, xt, xk, xb, xq, xg⟩)) = true) := by
                          show _ = _
                          rw [HNX.out]
                          unfold sameB
                          rw [hke]
                          simp [hk0, hoo]
                        clear hk0 hke
                        go_upto_region 17 with fail
                        go_quiet (fail)
                        go_wp2_with fail
                        go_roundw
                        case rel => exact ⟨j + 1, hjt, by go_num, ret_bool1 HNX2.out.symm, below_drewN BJ.out _⟩
                        case measure => simp [RowKit.intOf]; omega
                      · have g4 : decide (xo < yo) = false := decide_eq_false hoo
                        have HNX2 : Hid ((G0 || (all.take (j + 1)).any (sameB ⟨xo, xt, xk, xb, xq, xg⟩)) = a0) := by
                          show _ = _
                          rw [HNX.out]
                          unfold sameB
                          simp [hoo]
                        clear hk0 hke
                        go_upto_region 17 with fail
                        go_quiet (fail)
                        go_wp2_with fail
                        go_roundw
                        case rel => exact ⟨j + 1, hjt, by go_num, ret_bool1 HNX2.out.symm, below_drewN BJ.out _⟩
                        case measure => simp [RowKit.intOf]; omega
                    · have g3 : (ys.toList == ks.toList) = false := by rw [HKS.out, HYL.out, beq_eq_false_iff_ne]; exact hke
                      have HNX2 : Hid ((G0 || (all.take (j + 1)).any (sameB ⟨xo, xt, xk, xb, xq, xg⟩)) = a0) := by
                        show _ = _
                        rw [HNX.out]
                        unfold sameB
                        simp [hke]
                      clear hk0 hke
                      go_upto_region 17 with fail
                      go_quiet (fail)
                      go_wp2_with fail
                      go_roundw
                      case rel => exact ⟨j + 1, hjt, by go_num, ret_bool1 HNX2.out.symm, below_drewN BJ.out _⟩
                      case measure => simp [RowKit.intOf]; omega
                · obtain rfl : j = M := by omega
                  rw [List.take_of_length_le (by rw [HM.out]; exact Nat.le_refl _)] at ha0 ⊢
                  rw [ha0]
                  have hng2 := HNG.out
                  rw [ha0] at hng2
                  have HNG2 := Lib.hid hng2
                  clear ha0 hng2 HNG
                  have hX := X6.out.below BJ.out
                  have GB := Lib.hid (G.out.below hX.out.2)
                  have OB := Lib.hid (own_below HOV.out hX.out.2)
                  have XB := Lib.hid hX
                  clear hX G HOV X6 BJ
                  cases a0 with
                  | true =>
                    have hf := HFN.out
                    rw [HNG2.out] at hf
                    have HF2 := Lib.hid (show (srs.take (q + 1)).filter (ngF gr now all) = (srs.take q).filter (ngF gr now all) from hf)
                    clear hf HFN HNG2
                    go_wp2_with fail
                    go_roundw
                    case rel => exact ⟨q + 1, cnt, v, hqt, by go_num, GB.out, by rw [HF2.out]; exact HCN.out, by rw [HF2.out]; exact OB.out⟩
                    case measure => simp [RowKit.intOf]; omega
                  | false =>
                    have hf := HFN.out
                    rw [HNG2.out] at hf
                    have HF2 := Lib.hid (show (srs.take (q + 1)).filter (ngF gr now all) = (srs.take q).filter (ngF gr now all) ++ [⟨xo, xt, xk, xb, xq, xg⟩] from hf)
                    have hcq : cnt ≤ 200 := by
                      rw [← HCN.out]
                      refine Nat.le_trans (List.length_filter_le _ _) ?_
                      rw [List.length_take]; omega
                    have HON := Lib.hid (show ∀ z ∈ ([.int .i64 xo, .int .i64 xt, .string ks, .string bs, .int .i64 xq, .bool xg] : List Value), z.oneCell' = true by rw [← HFC.out]; exact one_cells _)
                    clear hf HFN HNG2
                    have hld := XB.out.load rfl
                    have d1 : wr.cell? ⟨g, 1, none⟩ = some v := GB.out.cell 1
                    have hl6 : g + 1 ≤ wr.heap.size := GB.out.out.1.lt
                    go_wp2_with (first | (refine wpList_load_any (by rfl) 46 (.tmp 12) rfl b9 0 rfl _ hld ?_; simp only [Act.put]) | (at_builtin; refine wpList_append_own _ rfl _ _ 37 rfl (g + 1) 46 i0 (.agg zcells) 6 64 Try.underlying37 hi hz0 hz1 hz2 rfl (by decide) _ _ _ rfl (OB.out.alloc _) ⟨wr.heap.size, 0, none⟩ 1 1 [.int .i64 xo, .int .i64 xt, .string ks, .string bs, .int .i64 xq, .bool xg] rfl rfl ?c1 ?c2 ?c3 ?c4 ?c5 ?_))
                    case c1 => exact fun j u h => cells_new wr _ [.int .i64 xo, .int .i64 xt, .string ks, .string bs, .int .i64 xq, .bool xg] j u h
                    case c2 => exact HON.out
                    case c3 => unfold maxLen; omega
                    case c4 => first | omega | (simp; omega)
                    case c5 => first | omega | (simp; omega)
                    intro v' w8 hown' hgrow _
                    have G8 : Hid (RBox V g #[.int .i64 ssb, v] w8) := .mk (blk_grown GB.out.out.1 OB.out (Nat.lt_succ_self _) hgrow) (GB.out.out.2.trans ((below_alloc_grown hl6 OB.out hgrow).mono (by rw [← HGV.out]; exact Nat.le_succ _)))
                    have O8 : Hid (w8.ownsRow (g + 1) 46 6 v' (cnt + 1) (flat ((srs.take (q + 1)).filter (ngF gr now all)))) := by show World.ownsRow _ _ _ _ _ _ _; rw [HF2.out, flat_snoc, HFC.out]; exact hown'
                    have HCN2 : Hid (((srs.take (q + 1)).filter (ngF gr now all)).length = cnt + 1) := by show _ = _; rw [HF2.out, List.length_append, HCN.out]; rfl
                    clear hown' hgrow GB OB XB hld d1 HON HCN HFC HF2
                    have d1 : w8.cell? ⟨g, 1, none⟩ = some v := G8.out.cell 1
                    have f1 := G8.out.out.1.frozen 1
                    have hv2 := own_one O8.out
                    have G9 : Hid (RBox V g #[.int .i64 ssb, v'] (w8.setCell ⟨g, 1, none⟩ v')) := .mk (G8.out.out.1.put 1 v') (G8.out.out.2.setCell (p := ⟨g, 1, none⟩) (Nat.le_of_eq HGV.out) v')
                    have O9 := Lib.hid (own_far O8.out ⟨g, 1, none⟩ (Nat.lt_succ_self _) v')
                    obtain ⟨A9, cc9, hv9⟩ := row_slice O8.out
                    subst hv9
                    clear G8 O8 hv2
                    go_wp2_with fail
                    clear d1 f1
                    go_roundw
                    case rel => exact ⟨q + 1, cnt + 1, _, hqt, by go_num, G9.out, HCN2.out, O9.out⟩
                    case measure => simp [RowKit.intOf]; omega
          · have hqM : q = M1 := by omega
            have hft : srs.take q = srs := List.take_of_length_le (by rw [HM1.out, hqM]; exact Nat.le_refl _)
            rw [hft] at HCN HOV
            have hc200 : cnt ≤ 200 := by
              rw [← HCN.out]
              exact Nat.le_trans (List.length_filter_le _ _) (by rw [HM1.out]; exact hM1b)
            obtain ⟨A9, c9, hv9⟩ := row_slice HOV.out
            subst hv9
            have d1 : U.cell? ⟨g, 1, none⟩ = some (.slice A9 cnt c9) := G.out.cell 1
            obtain ⟨fs, hfs⟩ : ∃ fs, srs.filter (ngF gr now all) = fs := ⟨_, rfl⟩
            rw [hfs] at HCN HOV HSN
            have e8 : ¬ (q : Int) < (M1 : Int) := by omega
            clear hft hfs hqM
            by_cases hc0 : cnt = 0
            · have hnil : fs = [] := List.eq_nil_of_length_eq_zero (HCN.out.trans hc0)
              have hs2 := HSN.out
              rw [hnil] at hs2
              have HS2 := Lib.hid (show shutF gr now all (l.take (k + 1)) = shutF gr now all (l.take k) from hs2)
              have g1 : decide ((0 : Int) < (cnt : Int)) = false := decide_eq_false (by omega)
              have g2 : decide (0 < cnt) = false := decide_eq_false (by omega)
              clear hs2 hnil hc0
              go_wp2_with fail
              go_roundw
              case rel => exact ⟨k + 1, xs, hlt, by go_num, by rw [HS2.out]; exact HO.out.below G.out.out.2, BU.out⟩
              case measure => simp [RowKit.intOf]; omega
            · have hs2 := HSN.out
              have hne : fs.isEmpty = false := by
                cases fs with
                | nil => exact absurd HCN.out.symm hc0
                | cons _ _ => rfl
              rw [hne] at hs2
              have HS2 := Lib.hid (show shutF gr now all (l.take (k + 1)) = shutF gr now all (l.take k) ++ [⟨ssb, fs⟩] from hs2)
              have g1 : decide ((0 : Int) < (cnt : Int)) = true := decide_eq_true (by omega)
              have g2 : decide (0 < cnt) = true := decide_eq_true (by omega)
              clear hs2 hne hc0
              obtain ⟨sc, hsc⟩ : ∃ sc, (shutF gr now all (l.take k)).length = sc := ⟨_, rfl⟩
              have hsc2 : sc ≤ 200 := by
                rw [← hsc]
                unfold shutF
                refine Nat.le_trans (List.length_filter_le _ _) ?_
                rw [List.length_map, List.length_take]; omega
              have hrw := own_below HO.out.row G.out.out.2
              rw [hsc] at hrw
              have HRW := Lib.hid hrw
              have HSC := Lib.hid hsc
              have hs6 := BU.out.size
              have hld := load_seg G.out.out.1 rfl
              clear hrw hsc
              go_wp2_with (first | (refine wpList_load_any (by rfl) 49 (.tmp 10) rfl g 0 rfl _ hld ?_; simp only [Act.put]) | (at_builtin; refine wpList_append_own _ rfl _ _ 23 rfl w3.heap.size 49 i1 (.agg #[.int .i64 0, .slice none 0 0]) 2 32 Try.underlying23 hi1 hy0 hy1 hy2 rfl (by decide) _ _ _ rfl (HRW.out.alloc _) ⟨U.heap.size, 0, none⟩ 1 1 [.int .i64 ssb, .slice A9 cnt c9] rfl rfl ?a1 ?a2 ?a3 ?a4 ?a5 ?_))
              try (case a1 => exact fun j u h => cells_new U _ [.int .i64 ssb, .slice A9 cnt c9] j u h)
              case a2 => first | exact ⟨rfl, rfl⟩ | exact fun u hu => by simp at hu; rcases hu with rfl | rfl <;> rfl
              case a3 => unfold maxLen; omega
              case a4 => first | omega | (simp; omega)
              case a5 => first | omega | (simp; omega)
              intro v' w8 hown' hgrow _
              have B8 := Lib.hid (BU.out.trans (below_alloc_grown hs6 HRW.out hgrow))
              have hO8 : OwnS w8 w3.heap.size v' (shutF gr now all (l.take (k + 1))) (xs ++ [⟨⟨ssb, fs⟩, A9, c9⟩]) := by
                rw [HS2.out]
                refine OwnS.snoc HO.out HB.out.size G.out.out.2 ?_ (by rw [HCN.out]; omega) hgrow ?_
                · rw [HCN.out]
                  exact own_mono HOV.out (by rw [HGV.out]; exact Nat.le_succ _)
                · rw [HSC.out, HCN.out]
                  exact hown'
              have O8 := Lib.hid hO8
              clear hO8 hown' hgrow HRW HO G HOV hld d1
              go_wp2_with fail
              go_roundw
              case rel => exact ⟨k + 1, _, hlt, by go_num, O8.out, B8.out⟩
              case measure => simp [RowKit.intOf]; omega
      · have hkn : k = n := by omega
        have e7 : ¬ (k : Int) < (n : Int) := by omega
        have htl : l.take k = l := List.take_of_length_le (by rw [HNL.out, hkn]; exact Nat.le_refl _)
        rw [htl] at HO
        have hl2 : n < (l ++ [u]).length := by rw [HLN.out]; omega
        obtain ⟨AU, cU, hsg⟩ := HCL.out n hl2
        have hlu : (l ++ [u])[n] = u := by rw [List.getElem_append_right (by rw [HNL.out]; exact Nat.le_refl _)]; simp [HNL.out]
        rw [hlu] at hsg
        obtain ⟨s0, s1, hA, _, hlim⟩ := hsg
        have hBV := R3.out.out.2.trans (HB.out.mono R3.out.out.2.size)
        have hcs := RCopySeg_is u.b u.rs AU cU w.heap.size V hlim hBV.size (hA.below hBV)
        obtain ⟨MU, hMU⟩ : ∃ MU, u.rs.length = MU := ⟨_, rfl⟩
        unfold GivesAt at hcs
        rw [hMU] at hcs s1
        have HCP := Lib.hid hcs
        have HLIM := Lib.hid hlim
        have HMU := Lib.hid hMU
        have hld := load_seg_at ((hBV.cell (p := ⟨b1, o1 + n * 2, none⟩) hb1).trans s0) ((hBV.cell (p := ⟨b1, o1 + n * 2 + 1, none⟩) hb1).trans s1)
        have e8 : (n : Int) < (N : Int) := by omega
        obtain ⟨sc, hsc⟩ : ∃ sc, (shutF gr now all l).length = sc := ⟨_, rfl⟩
        have hsc2 : sc ≤ 200 := by
          rw [← hsc]
          unfold shutF
          refine Nat.le_trans (List.length_filter_le _ _) ?_
          rw [List.length_map, HNL.out]; omega
        have hFs : F = sc + 1 := by
          rw [← HFF.out, ← hsc]
          unfold foldR foldC
          rw [if_pos rfl, List.length_append, HALL.out]; rfl
        have HSC := Lib.hid hsc
        have HFS := Lib.hid hFs
        have HBV := Lib.hid hBV
        clear htl hl2 hlu s0 s1 hA hlim hcs hMU hsc hFs hBV hkn
        go_wp2_with (refine wpList_load_any (by rfl) 49 (.tmp 114) rfl b1 (o1 + n * 2) rfl _ hld ?_; simp only [Act.put])
        refine HCP.out.mono ?_
        rintro e w6 ⟨A3, c3, rfl, hr6, hb6⟩
        have HR6 := Lib.hid hr6
        have HB6 := Lib.hid hb6
        have B6 := Lib.hid (bel_step HB.out hb6)
        have hrw := own_below HO.out.row hb6
        rw [HSC.out] at hrw
        have HRW := Lib.hid hrw
        have hs6 := B6.out.size
        clear hr6 hb6 hrw hld HCP
        go_wp2_with (at_builtin; refine wpList_append_own _ rfl _ _ 23 rfl w3.heap.size 49 i1 (.agg #[.int .i64 0, .slice none 0 0]) 2 32 Try.underlying23 hi1 hy0 hy1 hy2 rfl (by decide) _ _ _ rfl (HRW.out.alloc _) ⟨w6.heap.size, 0, none⟩ 1 1 [.int .i64 u.b, .slice A3 MU c3] rfl rfl ?d1 ?d2 ?d3 ?d4 ?d5 ?_)
        case d1 => exact fun j u' h => cells_new w6 _ [.int .i64 u.b, .slice A3 MU c3] j u' h
        case d2 => first | exact ⟨rfl, rfl⟩ | exact fun u hu => by simp at hu; rcases hu with rfl | rfl <;> rfl
        case d3 => unfold maxLen; omega
        case d4 => first | omega | (simp; omega)
        case d5 => first | omega | (simp; omega)
        intro v' w7 hown' hgrow _
        have B7 := Lib.hid (R3.out.out.2.trans ((B6.out.trans (below_alloc_grown hs6 HRW.out hgrow)).mono R3.out.out.2.size))
        have hO7 : OwnS w7 w3.heap.size v' (foldR ⟨sb, by_, ag, true, gr⟩ now l u) (xs ++ [⟨⟨u.b, u.rs⟩, A3, c3⟩]) := by
          unfold foldR foldC
          rw [if_pos rfl, HALL.out]
          refine OwnS.snoc HO.out HB.out.size HB6.out (by rw [HMU.out]; exact HR6.out) HLIM.out hgrow ?_
          rw [HSC.out, HMU.out]
          exact hown'
        have O7 := Lib.hid (hO7.mono R3.out.out.2.size)
        obtain ⟨A7, c7, hv7⟩ := row_slice hown'
        rw [← HFS.out] at hv7
        subst hv7
        clear hO7 hown' hgrow HRW HO HR6 HB6
        go_wp2_with fail
        go_ret
        exact ⟨A7, c7, _, rfl, O7.out, B7.out⟩
end Go.Proofs.Ythdefnfpjbpbkaa.Kpd
/- Package fold: whether a record goes. -/
namespace Go.Proofs.Ythdefnfpjbpbkaa.Kpd
open Go.RowKit Go.Lib Rcd

set_option maxRecDepth 100000 in
set_option maxHeartbeats 4000000 in
/-- fold.isPassed. -/
theorem passed_call (x : Rc) (m nn : Nat) (xs : List Rc) (D : DV) (X : Bool) (w : World) (h : MapIn w m nn xs D) (hk : x.k.length ≤ 1000000) (hX : decide (x.o < (lastZ xs x.k).o) = X) :
    Calls Try.prog 38 #[ragg x, .map (some m)] w fun e w' => e = .returned (.bool X) ∧ Below w.heap.size w w' := by
  obtain ⟨xo, xt, xk, xb, xq, xg⟩ := x
  dsimp only at hk hX
  have hb0 := (Below.refl w.heap.size w).alloc (Nat.le_refl _) (.cells (rarr xo xt (str xk) (str xb) xq xg) 46)
  have hl := (h.below hb0).look xk (by omega)
  have R0 := Lib.hid (RBox.new w 46 (rarr xo xt (str xk) (str xb) xq xg))
  unfold ragg
  dsimp only
  unfold ragg at hl
  generalize lastZ xs xk = z at hl hX
  obtain ⟨zo, zt, zk, zb, zq, zg⟩ := z
  dsimp only at hl hX
  generalize str zk = zks at hl
  generalize str zb = zbs at hl
  generalize str xk = ks at *
  generalize str xb = bs at *
  obtain ⟨p, hp⟩ : ∃ p, w.heap.size = p := ⟨_, rfl⟩
  obtain ⟨W0, hW⟩ : ∃ W0, w.alloc (.cells (rarr xo xt ks bs xq xg) 46) = W0 := ⟨_, rfl⟩
  rw [hW, hp] at R0
  rw [hW] at hl
  unfold rarr at R0 hW hl ⊢
  have HW := Lib.hid hW
  have HP := Lib.hid hp
  have HX := Lib.hid hX
  clear h hb0 hW hp hX
  go_enter Try.func38, Try.ntmps38
  go_upto_region 1 with fail
  rw [HW.out, HP.out]
  clear HW HP
  have c2 : W0.cell? ⟨p, 2, none⟩ = some (.string ks) := R0.out.cell 2
  have c0 : W0.cell? ⟨p, 0, none⟩ = some (.int .i64 xo) := R0.out.cell 0
  have hfd : ∀ W, (Instr.field 46 (.agg #[.int .i64 zo, .int .i64 zt, .string zks, .string zbs, .int .i64 zq, .bool zg]) 0).run Try.prog W = .ok (.int .i64 zo) W := fun W => by kernel_rfl
  go_wp2_with fail
  go_ret
  exact ⟨ret_bool HX.out, R0.out.out.2⟩

set_option maxRecDepth 100000 in
set_option maxHeartbeats 4000000 in
/-- fold.isOver. -/
theorem over_call (x : Rc) (r : Ru) (now : Int) (X : Bool) (w : World) (ht : 0 ≤ x.t ∧ x.t ≤ 1099511627776) (hg : 0 ≤ r.gr ∧ r.gr ≤ 1099511627776) (hX : (x.g && decide (x.t + r.gr < now)) = X) :
    Calls Try.prog 39 #[ragg x, ruagg r, .int .i64 now] w fun e w' => e = .returned (.bool X) ∧ Below w.heap.size w w' := by
  obtain ⟨xo, xt, xk, xb, xq, xg⟩ := x
  obtain ⟨sb, by_, ag, co, gr⟩ := r
  dsimp only at ht hg hX
  have D0 := Lib.hid (Duo.new w 46 25 (rarr xo xt (str xk) (str xb) xq xg) (ruarr sb by_ ag co gr))
  unfold ragg ruagg
  dsimp only
  generalize str xk = ks at *
  generalize str xb = bs at *
  have w2 : IntKind.i64.wrap (xt + gr) = xt + gr := IntWalk.i64_in _ ⟨by omega, by omega⟩
  obtain ⟨p, hp⟩ : ∃ p, w.heap.size = p := ⟨_, rfl⟩
  have hp1 : (w.alloc (.cells (rarr xo xt ks bs xq xg) 46)).heap.size = p + 1 := by rw [← hp]; simp
  obtain ⟨W0, hW⟩ : ∃ W0, (w.alloc (.cells (rarr xo xt ks bs xq xg) 46)).alloc (.cells (ruarr sb by_ ag co gr) 25) = W0 := ⟨_, rfl⟩
  rw [hW, hp] at D0
  unfold rarr ruarr at D0 hW ⊢
  unfold rarr at hp1
  have HW := Lib.hid hW
  have HP := Lib.hid hp
  have HP1 := Lib.hid hp1
  have HX := Lib.hid hX
  clear hW hp hp1 hX
  have c5 : W0.cell? ⟨p, 5, none⟩ = some (.bool xg) := D0.out.cell1 5
  have c1 : W0.cell? ⟨p, 1, none⟩ = some (.int .i64 xt) := D0.out.cell1 1
  have d4 : W0.cell? ⟨p + 1, 4, none⟩ = some (.int .i64 gr) := D0.out.cell2 4
  cases xg with
  | true =>
    have hX2 := HX.out
    rw [Bool.true_and] at hX2
    have HX2 := Lib.hid hX2
    clear hX2 HX
    go_enter Try.func39, Try.ntmps39
    go_upto_region 1 with fail
    (try rw [HP1.out]); rw [HW.out, HP.out]
    clear HW HP HP1
    go_wp2_with fail
    go_ret
    exact ⟨ret_bool HX2.out, D0.out.bel⟩
  | false =>
    go_enter Try.func39, Try.ntmps39
    go_upto_region 1 with fail
    (try rw [HP1.out]); rw [HW.out, HP.out]
    clear HW HP HP1
    go_wp2_with fail
    go_ret
    exact ⟨ret_bool HX.out, D0.out.bel⟩
/-- What the closure sees: the map, the rules, the time. -/
structure Sees (w : World) (m nn : Nat) (xs : List Rc) (D : DV) (r : Ru) (now : Int) (p q s : Nat) : Prop where
  map : MapIn w m nn xs D
  c0 : Blk w p #[.map (some m)]
  c1 : Blk w q (ruarr r.sb r.by_ r.ag r.co r.gr)
  c2 : Blk w s #[.int .i64 now]
theorem blk_kept {w w' : World} {g : Nat} {cs : Array Value} {row : Option Nat} (h : Blk w g cs) (hg : w.grownBy w' row) (hne : some g ≠ row) : Blk w' g cs := by
  have hl := h.lt
  obtain ⟨T, h⟩ := h
  exact ⟨T, (hg.block g hl hne).trans h⟩
theorem Sees.kept {w w' : World} {m nn : Nat} {xs : List Rc} {D : DV} {r : Ru} {now : Int} {p q s : Nat} {row : Option Nat} (h : Sees w m nn xs D r now p q s) (hg : w.grownBy w' row) (h1 : some m ≠ row) (h2 : some p ≠ row) (h3 : some q ≠ row) (h4 : some s ≠ row) : Sees w' m nn xs D r now p q s :=
  ⟨h.map.kept hg h1, blk_kept h.c0 hg h2, blk_kept h.c1 hg h3, blk_kept h.c2 hg h4⟩
/-- Does it go? -/
def outF (xs : List Rc) (r : Ru) (now : Int) (x : Rc) : Bool := decide (x.o < (lastZ xs x.k).o) || (x.g && decide (x.t + r.gr < now))

set_option maxRecDepth 100000 in
set_option maxHeartbeats 4000000 in
/-- fold's closure. -/
theorem out_call (x : Rc) (r : Ru) (now : Int) (m nn : Nat) (xs : List Rc) (D : DV) (p q s : Nat) (X : Bool) (w : World) (h : Sees w m nn xs D r now p q s) (hk : x.k.length ≤ 1000000) (ht : 0 ≤ x.t ∧ x.t ≤ 1099511627776) (hg : 0 ≤ r.gr ∧ r.gr ≤ 1099511627776) (hX : outF xs r now x = X) :
    Calls Try.prog 37 #[ragg x, .pointer (some ⟨p, 0, none⟩), .pointer (some ⟨q, 0, none⟩), .pointer (some ⟨s, 0, none⟩)] w fun e w' => e = .returned (.bool X) ∧ Below w.heap.size w w' := by
  have hb0 := (Below.refl w.heap.size w).alloc (Nat.le_refl _) (.cells (rarr x.o x.t (str x.k) (str x.b) x.q x.g) 46)
  have hm0 := h.map.below hb0
  obtain ⟨X1, hX1⟩ : ∃ X1, decide (x.o < (lastZ xs x.k).o) = X1 := ⟨_, rfl⟩
  obtain ⟨X2, hX2⟩ : ∃ X2, (x.g && decide (x.t + r.gr < now)) = X2 := ⟨_, rfl⟩
  have HC1 := Lib.hid (fun W hm => passed_call x m nn xs D X1 W hm hk hX1)
  have HC2 := Lib.hid (fun W => over_call x r now X2 W ht hg hX2)
  have HX := Lib.hid (show (X1 || X2) = X by rw [← hX1, ← hX2]; exact hX)
  have R0 := Lib.hid (RBox.new w 46 (rarr x.o x.t (str x.k) (str x.b) x.q x.g))
  have HB1 := Lib.hid (h.c0.below hb0)
  have HB2 := Lib.hid (h.c1.below hb0)
  have HB3 := Lib.hid (h.c2.below hb0)
  have HM := Lib.hid hm0
  clear h hm0 hb0 hX1 hX2 hX
  unfold ragg at HC1 HC2 ⊢
  unfold ruagg at HC2
  generalize str x.k = ks at *
  generalize str x.b = bs at *
  generalize x.o = xo at *
  generalize x.t = xt at *
  generalize x.q = xq at *
  generalize x.g = xg at *
  generalize r.sb = sb at *
  generalize r.by_ = by_ at *
  generalize r.ag = ag at *
  generalize r.co = co at *
  generalize r.gr = gr at *
  obtain ⟨b, hp⟩ : ∃ b, w.heap.size = b := ⟨_, rfl⟩
  obtain ⟨W0, hW⟩ : ∃ W0, w.alloc (.cells (rarr xo xt ks bs xq xg) 46) = W0 := ⟨_, rfl⟩
  rw [hW, hp] at R0
  rw [hW] at HB1 HB2 HB3 HM
  unfold rarr at R0 hW HC1 HC2 ⊢
  unfold ruarr at HB2 HC2
  have HW := Lib.hid hW
  have HP := Lib.hid hp
  clear hW hp
  go_enter Try.func37, Try.ntmps37
  go_upto_region 1 with fail
  rw [HW.out, HP.out]
  clear HW HP
  have d0 : W0.cell? ⟨p, 0, none⟩ = some (.map (some m)) := HB1.out.cell 0
  have hld := R0.out.load rfl
  go_wp2_with (refine wpList_load_any (by rfl) 46 (.tmp 4) rfl b 0 rfl _ hld ?_; simp only [Act.put])
  refine (HC1.out _ HM.out).mono ?_
  rintro e w1 ⟨rfl, hb1⟩
  have R1 := Lib.hid (R0.out.below hb1)
  have d2 : w1.cell? ⟨s, 0, none⟩ = some (.int .i64 now) := (HB3.out.below hb1).cell 0
  have HL2 := Lib.hid (HB2.out.below hb1)
  clear hb1 R0 HB1 HB2 HB3 HM d0 hld HC1
  cases X1 with
  | true =>
    go_wp2_with fail
    go_ret
    exact ⟨ret_bool (by rw [← HX.out]; rfl), R1.out.out.2⟩
  | false =>
    have x0 : w1.cell? ⟨b, 0, none⟩ = some (.int .i64 xo) := R1.out.cell 0
    have x1 : w1.cell? ⟨b, 1, none⟩ = some (.int .i64 xt) := R1.out.cell 1
    have x2 : w1.cell? ⟨b, 2, none⟩ = some (.string ks) := R1.out.cell 2
    have x3 : w1.cell? ⟨b, 3, none⟩ = some (.string bs) := R1.out.cell 3
    have x4 : w1.cell? ⟨b, 4, none⟩ = some (.int .i64 xq) := R1.out.cell 4
    have x5 : w1.cell? ⟨b, 5, none⟩ = some (.bool xg) := R1.out.cell 5
    have y0 : w1.cell? ⟨q, 0, none⟩ = some (.int .i64 sb) := HL2.out.cell 0
    have y1 : w1.cell? ⟨q, 1, none⟩ = some (.int .i64 by_) := HL2.out.cell 1
    have y2 : w1.cell? ⟨q, 2, none⟩ = some (.int .i64 ag) := HL2.out.cell 2
    have y3 : w1.cell? ⟨q, 3, none⟩ = some (.bool co) := HL2.out.cell 3
    have y4 : w1.cell? ⟨q, 4, none⟩ = some (.int .i64 gr) := HL2.out.cell 4
    go_wp2_with fail
    refine (HC2.out _).mono ?_
    rintro e w2 ⟨rfl, hb2⟩
    have R2 := Lib.hid (R1.out.below hb2)
    clear hb2 R1 x0 x1 x2 x3 x4 x5 y0 y1 y2 y3 y4 d2 HL2
    go_wp2_with fail
    go_ret
    exact ⟨ret_bool (by rw [← HX.out]; rfl), R2.out.out.2⟩
end Go.Proofs.Ythdefnfpjbpbkaa.Kpd
/- Records taken out of a row of the call's own, in place: slices.IndexFunc, slices.DeleteFunc. -/
namespace Go.Proofs.Ythdefnfpjbpbkaa.Kpd
open Go.RowKit Go.Lib Go.Maps Rcd

section
variable {w W : World} {g o : Nat} {l : List Rc}
theorem rng_app {xs ys : List Value} (h1 : w.rangeAt g o xs) (h2 : w.rangeAt g (o + xs.length) ys) : w.rangeAt g o (xs ++ ys) := fun j v hv => by
  by_cases hj : j < xs.length
  · rw [List.getElem?_append_left hj] at hv; exact h1 j v hv
  · rw [List.getElem?_append_right (by omega)] at hv
    have := h2 (j - xs.length) v hv
    rwa [show o + xs.length + (j - xs.length) = o + j by omega] at this
theorem rng_left {xs ys : List Value} (h : w.rangeAt g o (xs ++ ys)) : w.rangeAt g o xs := fun j v hv => h j v (by rw [List.getElem?_append_left (List.getElem?_eq_some_iff.1 hv).1]; exact hv)
theorem rng_right {xs ys : List Value} (h : w.rangeAt g o (xs ++ ys)) : w.rangeAt g (o + xs.length) ys := fun j v hv => by
  rw [show o + xs.length + j = o + (xs.length + j) by omega]
  exact h (xs.length + j) v (by rw [List.getElem?_append_right (by omega), show xs.length + j - xs.length = j by omega]; exact hv)
theorem rec_split {a : Nat} (ha : a < l.length) : flat l = flat (l.take a) ++ (rcells l[a] ++ flat (l.drop (a + 1))) := by
  rw [← flat_cons, ← flat_app, ← List.drop_eq_getElem_cons ha, List.take_append_drop]
theorem take_flen {a : Nat} (ha : a ≤ l.length) : (flat (l.take a)).length = a * 6 := by rw [flat_len, List.length_take, Nat.min_eq_left ha]
/-- One written over. -/
theorem rng_set {a : Nat} (ha : a < l.length) (s : Rc) (h : w.rangeAt g 0 (flat l)) (ht : w.there g (a * 6) 6) : (w.setCells g (a * 6) (rcells s)).rangeAt g 0 (flat (l.set a s)) := by
  have hl := take_flen (l := l) (Nat.le_of_lt ha)
  rw [rec_split ha] at h
  have h1 := rng_left h
  have h2 := rng_right h
  have h3 := rng_right h2
  rw [List.set_eq_take_append_cons_drop, if_pos ha, flat_app, flat_cons]
  rw [hl] at h2 h3
  refine rng_app (World.rangeAt_setCells_apart h1 g _ _ (.inr (.inl (by rw [hl]; omega)))) ?_
  rw [hl, Nat.zero_add]
  refine rng_app (World.rangeAt_setCells_same w g (a * 6) (rcells s) ht) ?_
  rw [Nat.zero_add] at h3
  exact World.rangeAt_setCells_apart h3 g _ _ (.inr (.inr (Nat.le_refl _)))
end

/-- Block g holds the records ys, and room behind them. -/
def RowAt (w : World) (g c : Nat) (ys : List Rc) : Prop := ∃ cur, w.heap[g]? = some (.cells cur 46 (0, 0)) ∧ ys.length ≤ c ∧ c ≤ maxLen ∧ cur.size = c * 6 ∧ w.rangeAt g 0 (flat ys)
section
variable {w w' : World} {g c : Nat} {ys : List Rc}
theorem RowAt.blk (h : RowAt w g c ys) : ∃ cur, Blk w g cur := by
  obtain ⟨cur, h1, _⟩ := h
  exact ⟨cur, _, h1⟩
theorem RowAt.lt (h : RowAt w g c ys) : g < w.heap.size := by
  obtain ⟨cur, h1⟩ := h.blk
  exact h1.lt
theorem RowAt.there (h : RowAt w g c ys) {o n : Nat} (hn : o + n ≤ ys.length * 6) : w.there g o n := by
  obtain ⟨cur, h1, h2, h3, h4, h5⟩ := h
  have hb : Blk w g cur := ⟨_, h1⟩
  intro j hj
  have hs := h5.isSome (o + j) (by rw [flat_len]; omega)
  rw [Nat.zero_add] at hs
  exact ⟨hs, hb.frozen _⟩
theorem RowAt.below (h : RowAt w g c ys) (hb : Below w.heap.size w w') : RowAt w' g c ys := by
  have hl := h.lt
  obtain ⟨cur, h1, h2, h3, h4, h5⟩ := h
  exact ⟨cur, (hb.block g hl).trans h1, h2, h3, h4, fun j v hv => (hb.cell (p := ⟨g, 0 + j, none⟩) hl).trans (h5 j v hv)⟩
theorem RowAt.recs (h : RowAt w g c ys) : RecsAt w (g + 1) (some ⟨g, 0, none⟩) ys := by
  obtain ⟨cur, h1, h2, h3, h4, h5⟩ := h
  exact .of_cells (Nat.lt_succ_self _) fun j u hu => by
    have := h5 j u hu
    rwa [Nat.zero_add] at this
theorem setCells_block (b : Nat) : ∀ (vs : List Value) (o : Nat) (W : World) (cur : Array Value) (T : TypeId), W.heap[b]? = some (.cells cur T (0, 0)) → ∃ cur', (W.setCells b o vs).heap[b]? = some (.cells cur' T (0, 0)) ∧ cur'.size = cur.size
  | [], _, _, cur, _, h => ⟨cur, h, rfl⟩
  | v :: r, o, W, cur, T, h => by
    have h1 : (W.setCell ⟨b, o, none⟩ v).heap[b]? = some (.cells (cur.setIfInBounds o v) T (0, 0)) := by simp [World.setCell, Array.getElem?_modify, h]
    obtain ⟨cur', h2, h3⟩ := setCells_block b r (o + 1) _ _ T h1
    exact ⟨cur', h2, by rw [h3]; simp⟩
theorem setCells_grown (b : Nat) : ∀ (vs : List Value) (o : Nat) (W : World), W.grownBy (W.setCells b o vs) (some b)
  | [], _, W => ⟨rfl, rfl, rfl, Nat.le_refl _, fun _ _ _ => rfl⟩
  | v :: r, o, W => by
    have h1 : W.grownBy (W.setCell ⟨b, o, none⟩ v) (some b) := ⟨rfl, rfl, rfl, by simp [World.setCell], fun k _ hne => Below.heap_setCell W ⟨b, o, none⟩ v k (fun e => hne (by rw [e]))⟩
    exact h1.trans (setCells_grown b r (o + 1) _)
theorem RowAt.set (h : RowAt w g c ys) {a : Nat} (ha : a < ys.length) (s : Rc) : RowAt (w.setCells g (a * 6) (rcells s)) g c (ys.set a s) := by
  have ht := h.there (o := a * 6) (n := 6) (by omega)
  obtain ⟨cur, h1, h2, h3, h4, h5⟩ := h
  obtain ⟨cur', e1, e2⟩ := setCells_block g (rcells s) (a * 6) w cur _ h1
  exact ⟨cur', e1, by rw [List.length_set]; exact h2, h3, by rw [e2]; exact h4, rng_set ha s h5 ht⟩
/-- Behind some of them all is written over. -/
theorem RowAt.cut (h : RowAt w g c ys) {a : Nat} (ha : a ≤ ys.length) (vs : List Value) : RowAt (w.setCells g (a * 6) vs) g c (ys.take a) := by
  obtain ⟨cur, h1, h2, h3, h4, h5⟩ := h
  obtain ⟨cur', e1, e2⟩ := setCells_block g vs (a * 6) w cur _ h1
  refine ⟨cur', e1, by rw [List.length_take]; omega, h3, by rw [e2]; exact h4, ?_⟩
  have h6 : w.rangeAt g 0 (flat (ys.take a)) := by
    have e : flat ys = flat (ys.take a) ++ flat (ys.drop a) := by rw [← flat_app, List.take_append_drop]
    rw [e] at h5
    exact rng_left h5
  exact World.rangeAt_setCells_apart h6 g _ _ (.inr (.inl (by rw [take_flen ha]; omega)))
theorem RowAt.own {B n : Nat} (h : RowAt w g c ys) (hn : ys.length = n) (hB : B ≤ g) : w.ownsRow B 46 6 (.slice (some ⟨g, 0, none⟩) n c) n (flat ys) := by
  obtain ⟨cur, h1, h2, h3, h4, h5⟩ := h
  subst hn
  refine ⟨flat_len ys, .inr ⟨g, c, cur, rfl, hB, h1, h2, h3, h4, ?_⟩⟩
  have hb : Blk w g cur := ⟨_, h1⟩
  apply List.ext_getElem?
  intro i
  by_cases hi : i < ys.length * 6
  · rw [List.getElem?_take_of_lt hi, Array.getElem?_toList, ← hb.cell i]
    have hif : i < (flat ys).length := by rw [flat_len]; exact hi
    have := h5 i _ (List.getElem?_eq_getElem hif)
    rw [Nat.zero_add] at this
    rw [this, List.getElem?_eq_getElem hif]
  · rw [List.getElem?_eq_none (by rw [List.length_take]; omega), List.getElem?_eq_none (by rw [flat_len]; omega)]
theorem RowAt.of_own {B n : Nat} (hn : ys.length = n) (h : w.ownsRow B 46 6 (.slice (some ⟨g, 0, none⟩) n c) n (flat ys)) : RowAt w g c ys ∧ B ≤ g := by
  subst hn
  rcases h.2 with ⟨hv, _⟩ | ⟨g', cap, cur, hv, hB, hg, hle, hc, hsz, htk⟩
  · cases hv
  · injection hv with hA _ hcc
    injection hA with hA
    injection hA with hA
    subst hA hcc
    refine ⟨⟨cur, hg, hle, hc, hsz, fun j v hv => ?_⟩, hB⟩
    have := h.cells (g := g) rfl j v hv
    rw [add_new] at this
    rw [Nat.zero_add]
    exact this
end
/-- The first that goes. -/
def IxIs (p : Rc → Bool) (rs : List Rc) (i : Int) : Prop := (i = -1 ∧ ∀ x ∈ rs, p x = false) ∨ ∃ k, ∃ h : k < rs.length, i = (k : Int) ∧ p rs[k] = true ∧ ∀ j (hj : j < rs.length), j < k → p rs[j] = false
theorem ix_ex (p : Rc → Bool) (rs : List Rc) : ∃ i, IxIs p rs i := by
  by_cases h : ∃ k, ∃ h : k < rs.length, p rs[k] = true
  · obtain ⟨k, ⟨hk, h1⟩, h2⟩ : ∃ k, (∃ h : k < rs.length, p rs[k] = true) ∧ ∀ j, j < k → ¬ ∃ h : j < rs.length, p rs[j] = true := by
      induction rs with
      | nil => obtain ⟨k, hk, _⟩ := h; simp at hk
      | cons x t ih =>
        cases hx : p x with
        | true => exact ⟨0, ⟨by simp, hx⟩, fun j hj => absurd hj (Nat.not_lt_zero _)⟩
        | false =>
          have h' : ∃ k, ∃ h : k < t.length, p t[k] = true := by
            obtain ⟨k, hk, hp⟩ := h
            cases k with
            | zero => rw [List.getElem_cons_zero, hx] at hp; cases hp
            | succ k => exact ⟨k, by simpa using hk, by simpa using hp⟩
          obtain ⟨k, ⟨hk, h1⟩, h2⟩ := ih h'
          refine ⟨k + 1, ⟨by simpa using hk, by simpa using h1⟩, fun j hj => ?_⟩
          rintro ⟨hj2, hp⟩
          cases j with
          | zero => rw [List.getElem_cons_zero, hx] at hp; cases hp
          | succ j => exact h2 j (by omega) ⟨by simpa using hj2, by simpa using hp⟩
    exact ⟨_, .inr ⟨k, hk, rfl, h1, fun j hj hjk => by
      rw [← Bool.not_eq_true]
      exact fun e => h2 j hjk ⟨hj, e⟩⟩⟩
  · refine ⟨_, .inl ⟨rfl, fun x hx => ?_⟩⟩
    obtain ⟨k, hk, rfl⟩ := List.mem_iff_getElem.1 hx
    rw [← Bool.not_eq_true]
    exact fun e => h ⟨k, hk, e⟩
abbrev outI : FuncId := 37

set_option maxRecDepth 100000 in
set_option maxHeartbeats 4000000 in
/-- slices.IndexFunc. -/
theorem Index_is (p : Rc → Bool) (rs : List Rc) (N : Nat) (A : Option Addr) (c B a b d : Nat) (i0 : Int) (w : World) (hN : rs.length = N) (hm : N ≤ 9223372036854775807) (hB : B ≤ w.heap.size) (h : RecsAt w B A rs)
    (hP : ∀ W, Below w.heap.size w W → ∀ x ∈ rs, ∀ X, p x = X → Calls Try.prog outI #[ragg x, .pointer (some ⟨a, 0, none⟩), .pointer (some ⟨b, 0, none⟩), .pointer (some ⟨d, 0, none⟩)] W fun e w' => e = .returned (.bool X) ∧ Below W.heap.size W w') (hi : IxIs p rs i0) :
    Calls Try.prog 45 #[.slice A N c, .func (.func outI) #[] #[.pointer (some ⟨a, 0, none⟩), .pointer (some ⟨b, 0, none⟩), .pointer (some ⟨d, 0, none⟩)]] w fun e w' => e = .returned (.int .i64 i0) ∧ Below w.heap.size w w' := by
  have HH := Lib.hid (h.mono hB)
  have HP := Lib.hid hP
  have HN := Lib.hid hN
  have HI := Lib.hid hi
  have hcf : ∀ (args : Array Value) (W : World), (callFunc outI args).run Try.prog W = .ok (.enter outI args) W := fun args W => by go_simp
  clear h hP hN hi hB
  go_enter Try.func45, Try.ntmps45
  go_wp2_with fail
  go_loopw [8] (fun i wr => ∃ k : Nat, k ≤ N ∧ i = .int .i64 (k : Int) ∧ Below w.heap.size w wr ∧ ∀ j (hj : j < rs.length), j < k → p rs[j] = false) (fun i _ => N - (RowKit.intOf i).toNat)
  case atStart => exact ⟨0, Nat.zero_le _, rfl, Below.refl _ _, fun j _ hj => absurd hj (Nat.not_lt_zero _)⟩
  case round =>
    obtain ⟨k, hk, rfl, hbl, hno⟩ := hrel
    have HB := Lib.hid hbl
    have HNO := Lib.hid hno
    clear hbl hno
    by_cases hlt : k < N
    · have hkr : k < rs.length := by rw [HN.out]; exact hlt
      obtain ⟨b1, o1, rfl, hb1, hc⟩ := (HH.out.below HB.out).some_ (by omega)
      obtain ⟨c0, c1, c2, c3, c4, c5⟩ := hc k hkr
      obtain ⟨X, hX⟩ : ∃ X, p rs[k] = X := ⟨_, rfl⟩
      have HC := Lib.hid (HP.out wr HB.out rs[k] (List.getElem_mem hkr) X hX)
      unfold ragg rarr at HC
      have HX := Lib.hid hX
      clear hc hX
      generalize rs[k].o = xo at c0 HC
      generalize rs[k].t = xt at c1 HC
      generalize str rs[k].k = xk at c2 HC
      generalize str rs[k].b = xb at c3 HC
      generalize rs[k].q = xq at c4 HC
      generalize rs[k].g = xg at c5 HC
      have e1 : (k : Int) < (N : Int) := by omega
      go_wp2_with fail
      refine HC.out.mono ?_
      rintro e w1 ⟨rfl, hb2⟩
      have HB1 := Lib.hid (bel_step HB.out hb2)
      clear hb2 HC HB c0 c1 c2 c3 c4 c5
      cases X with
      | true =>
        have he : i0 = (k : Int) := by
          rcases HI.out with ⟨_, h2⟩ | ⟨k', hk', h1, h2, h3⟩
          · have := h2 _ (List.getElem_mem hkr)
            rw [HX.out] at this; cases this
          · rcases Nat.lt_trichotomy k k' with cc | cc | cc
            · have := h3 k hkr cc
              rw [HX.out] at this; cases this
            · rw [h1, cc]
            · have := HNO.out k' hk' cc
              rw [h2] at this; cases this
        subst he
        go_wp2_with fail
        go_ret
        exact ⟨rfl, HB1.out⟩
      | false =>
        go_wp2_with fail
        go_roundw
        case rel =>
          refine ⟨k + 1, hlt, by go_num, HB1.out, fun j hj hjk => ?_⟩
          rcases Nat.lt_or_ge j k with cc | cc
          · exact HNO.out j hj cc
          · obtain rfl : j = k := by omega
            exact HX.out
        case measure => simp [RowKit.intOf]; omega
    · have hkn : k = N := by omega
      have he : i0 = -1 := by
        rcases HI.out with ⟨h1, _⟩ | ⟨k', hk', _, h2, _⟩
        · exact h1
        · have := HNO.out k' hk' (by rw [hkn, ← HN.out]; exact hk')
          rw [h2] at this; cases this
      subst he
      go_wp2_with fail
      go_ret
      exact ⟨rfl, HB.out⟩
theorem clear_recs (W : World) (ty : TypeId) (b o n c : Nat) (hn : 0 < n) (hth : W.there b o (n * 6)) : (Builtin.clear_ #[37] ty #[.slice (some ⟨b, o, none⟩) n c]).run Try.prog W = .ok (.tuple #[]) (W.setCells b o (Builtin.zeroCells (ragg rzero).cells n).toList) := by
  have hz := fun w => zero_recv w
  have hsz : (ragg rzero).cells.size = 6 := rfl
  have hlen : (Builtin.zeroCells (ragg rzero).cells n).toList.length = n * 6 := by
    simp [Builtin.zeroCells, hsz]
  have hone : ∀ v ∈ (Builtin.zeroCells (ragg rzero).cells n).toList, v.oneCell' = true := by
    have hall : ∀ i, (h : i < 6) → ((ragg rzero).cells[i]'(by rw [hsz]; exact h)).oneCell' = true := by
      intro i h
      match i, h with
      | 0, _ => rfl
      | 1, _ => rfl
      | 2, _ => rfl
      | 3, _ => rfl
      | 4, _ => rfl
      | 5, _ => rfl
    intro v hv
    simp only [Builtin.zeroCells] at hv
    simp at hv
    obtain ⟨a, _, rfl⟩ := hv
    have hlt : a % (ragg rzero).cells.size < (ragg rzero).cells.size := Nat.mod_lt _ (by rw [hsz]; omega)
    rw [getElem!_pos (ragg rzero).cells _ hlt]
    exact hall _ (by rw [hsz] at hlt; exact hlt)
  have hst := run_storeCells_cells (P := Try.prog) b o (Builtin.zeroCells (ragg rzero).cells n).toList 0 W (fun j hj => by simpa using (hth j (by rw [← hlen]; exact hj)).1) (fun j hj => by simpa using (hth j (by rw [← hlen]; exact hj)).2) hone
  simp only [Nat.add_zero] at hst
  obtain ⟨m, rfl⟩ : ∃ m, n = m + 1 := ⟨n - 1, by omega⟩
  simp [Builtin.clear_, run_underlying Try.underlying37, hz, hst]
theorem recs_tail (g n c i : Nat) (W : World) (h : i < n) (hc : n ≤ c) : (Instr.sliceAt 37 (.slice (some ⟨g, 0, none⟩) n c) (some (.int .i64 (i : Int))) none none).run Try.prog W = .ok (.slice (some ⟨g, i * 6, none⟩) (n - i) (c - i)) W := by
  have h1 : (i : Int) ≤ (n : Int) := by omega
  have h2 : (n : Int) ≤ (c : Int) := by omega
  have c0 : ¬ c = i := by omega
  by_cases k0 : i = 0
  · subst k0
    go_simp
    try simp [Addr.add]
  · have hk6 : ¬ i * 6 = 0 := by omega
    go_simp
    try simp [Addr.add, k0, c0, hk6]
theorem drop_next {l m : List Rc} {j : Nat} (h : l.drop j = m.drop j) : l.drop (j + 1) = m.drop (j + 1) := by
  have e : ∀ t : List Rc, t.drop (j + 1) = (t.drop j).drop 1 := fun t => by rw [List.drop_drop]
  rw [e l, e m, h]
theorem drop_get {l m : List Rc} {j : Nat} (h : l.drop j = m.drop j) (h1 : j < l.length) (h2 : j < m.length) : l[j] = m[j] := by
  have e1 := List.getElem_drop (xs := l) (i := j) (j := 0) (h := by rw [List.length_drop]; omega)
  have e2 := List.getElem_drop (xs := m) (i := j) (j := 0) (h := by rw [List.length_drop]; omega)
  simp only [Nat.add_zero] at e1 e2
  rw [← e1, ← e2]
  simp only [h]
theorem wpList_store_rec {ops : Array Oper} {rest : List Oper} {op : Oper} {a : Act} {w : World} {Q : Exit → Act → World → Prop} (hgd : op.guard = none) (x y : Operand) (ho : op.op = .store 46 x y)
    (g o : Nat) (xo xt : Int) (ks bs : ByteArray) (xq : Int) (xg : Bool) (hx : a.eval x = .pointer (some ⟨g, o, none⟩)) (hy : a.eval y = .agg #[.int .i64 xo, .int .i64 xt, .string ks, .string bs, .int .i64 xq, .bool xg]) (ht : w.there g o 6)
    (W : World) (hW : w.setCells g o [.int .i64 xo, .int .i64 xt, .string ks, .string bs, .int .i64 xq, .bool xg] = W) (h : wpList Try.prog ops Q rest (a.put op.dst undef) W) : wpList Try.prog ops Q (op :: rest) a w := by
  subst hW
  exact wpList_store_mid hgd 46 x y ho g o #[.int .i64 xo, .int .i64 xt, .string ks, .string bs, .int .i64 xq, .bool xg] hx hy ht info_rec (by simp [Value.oneCell']) h
def npF (p : Rc → Bool) (x : Rc) : Bool := !p x
theorem start_filter {p : Rc → Bool} {rs : List Rc} {k : Nat} (hk : k < rs.length) (hp : p rs[k] = true) (hno : ∀ j (hj : j < rs.length), j < k → p rs[j] = false) : (rs.take (k + 1)).filter (npF p) = rs.take k := by
  rw [filter_next hk, show npF p rs[k] = false from by unfold npF; rw [hp]; rfl]
  simp only [Bool.false_eq_true, if_false]
  rw [List.filter_eq_self]
  intro x hx
  obtain ⟨j, hj, rfl⟩ := List.mem_iff_getElem.1 hx
  rw [List.length_take] at hj
  rw [List.getElem_take]
  unfold npF
  rw [hno j (by omega) (by omega)]; rfl
end Go.Proofs.Ythdefnfpjbpbkaa.Kpd
