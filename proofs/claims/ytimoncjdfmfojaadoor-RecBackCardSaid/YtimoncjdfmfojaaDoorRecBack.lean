/- RecBack: records written one behind the other are read back; cut off anywhere those that are whole are; with one bit turned no record is itself any more. -/
import Derived.Test.YtimoncjdfmfojaaDoorRcTurn
import Derived.Deep.CutRange
namespace Go.Proofs.YtimoncjdfmfojaaDoor
open Go.RowKit Go.Lib Vbi Rcd Crc

set_option maxRecDepth 100000 in
set_option maxHeartbeats 16000000 in
theorem RecBack_any (A : Option Addr) (n c : Nat) (w : World) (h : Asks w A n) (ht : Tab w) :
    Calls Tryd.prog 5 #[.slice A n c] w fun e w' => e = .returned (.bool true) ∧ Below w.heap.size w w' := by
  have H := Lib.hid h
  have T := Lib.hid ht
  clear h ht
  go_enter Tryd.func5, Tryd.ntmps5
  go_wp2_with fail
  go_loopw [3] (fun i wr => ∃ k : Nat, k ≤ n ∧ k ≤ 10 ∧ i = .int .i64 (k : Int) ∧ Below w.heap.size w wr) (fun i _ => 10 - (RowKit.intOf i).toNat)
  case atStart => exact ⟨0, Nat.zero_le _, by omega, rfl, Below.refl _ _⟩
  case round =>
    obtain ⟨k, hkn, hk10, rfl, hnx⟩ := hrel
    by_cases hgo : k < n ∧ k < 10
    · obtain ⟨h1, h2⟩ := hgo
      rcases H.out with h0 | ⟨b, off, rfl, hall⟩
      · omega
      · obtain ⟨P, l, c2, s, ha⟩ := hall k h1
        have HA := Lib.hid ha
        have ha1 := ha.below hnx
        have q0 := ha1.c0
        have q1 := ha1.c1
        have HX := Lib.hid hnx
        have hl := ha.hl
        have HV := Lib.hid (fun W (hb : Below w.heap.size w W) => heavy_is P l c2 s W hl ((ha.rs.below hb).mono hb.size))
        clear hall ha ha1 hnx H
        have hkn' : (k : Int) < (n : Int) := by omega
        have hk10' : (k : Int) < 10 := by omega
        go_wp2_with fail
        refine (HV.out _ HX.out).mono ?_
        rintro e w1 ⟨hv, rfl, hvs, hb1⟩
        have HX1 := Lib.hid (HX.out.trans (hb1.mono HX.out.size))
        clear hb1 HX HV q0 q1
        cases hv with
        | true =>
          go_wp2_with fail
          go_ret
          exact ⟨rfl, HX1.out⟩
        | false =>
          clear hvs
          go_wp2_with fail
          go_loopw [4, 5, 6, 7] (fun sv gv ev i wr => ∃ (j : Nat) (rs : List Rc) (A1 A2 : Option Addr) (c1 c2 : Nat), j ≤ l.length ∧ j ≤ 6 ∧ i = .int .i64 (j : Int) ∧ sv = .string (str (allL rs)) ∧ gv = .slice A1 rs.length c1 ∧ ev = .slice A2 rs.length c2 ∧
            (∀ r ∈ rs, mayB r = true) ∧ rs.length ≤ j ∧ (allL rs).length ≤ 2100 * rs.length ∧ wr.ownsRow w.heap.size 28 6 (.slice A1 rs.length c1) rs.length (flat rs) ∧ wr.ownsRow w.heap.size 3 1 (.slice A2 rs.length c2) rs.length ((endsZ rs).map (Value.int .i64)) ∧ Below w.heap.size w wr) (fun _ _ _ i _ => 6 - (RowKit.intOf i).toNat)
          case atStart => exact ⟨0, [], none, none, 0, 0, Nat.zero_le _, by omega, rfl, rfl, rfl, rfl, (fun r hr => by cases hr), Nat.le_refl _, Nat.le_refl _, World.ownsRow_nil _ _ _ _, World.ownsRow_nil _ _ _ _, HX1.out⟩
          case round =>
            obtain ⟨j, rs, A1, A2, c1, c2', hjl, hj6, rfl, rfl, rfl, rfl, hmay, hrl, hal, ho1, ho2, hnx⟩ := hrel
            have HM := Lib.hid hmay
            have HO1 := Lib.hid ho1
            have HO2 := Lib.hid ho2
            have HX := Lib.hid hnx
            have ha1 := HA.out.below hnx
            have q0 := ha1.c0
            have hsz0 := str_size (allL rs)
            clear HX1 hmay ho1 ho2
            by_cases hgo : j < l.length ∧ j < 6
            · obtain ⟨hj1, hj2⟩ := hgo
              have hjI : (j : Int) < (l.length : Int) := by omega
              have hj6' : (j : Int) < 6 := by omega
              obtain ⟨bp, op, rfl, hbp, hc⟩ := ha1.rs.some_ (by omega)
              have hr := hc j hj1
              obtain ⟨r, hrj⟩ : ∃ r, l[j] = r := ⟨_, rfl⟩
              rw [hrj] at hr
              obtain ⟨X, S, E, hX, hS, hE, hsz, hw⟩ := rec_ways r
              have HBY := Lib.hid (fun W (hb : Below w.heap.size w W) => Bytes_is r S E W (T.out.below hb) hS hE)
              obtain ⟨d0, d1, d2, d3, d4, d5⟩ := hr
              clear hc ha1 hnx hsz hS hE
              unfold ragg at HBY
              rcases hw with ⟨rfl, rfl, hS⟩ | ⟨rfl, rfl, rfl⟩
              · have hmr : mayB r = true := hX
                obtain ⟨o, t, key, bod, q, g'⟩ := r
                dsimp only at HBY d0 d1 d2 d3 d4 d5
                obtain ⟨ks, hks⟩ : ∃ ks, str key = ks := ⟨_, rfl⟩
                obtain ⟨bs, hbs⟩ : ∃ bs, str bod = bs := ⟨_, rfl⟩
                rw [hks] at HBY d2
                rw [hbs] at HBY d3
                unfold rarr at HBY
                have HKS := Lib.hid hks
                have HBS := Lib.hid hbs
                have hSz : S.size = (recL ⟨o, t, key, bod, q, g'⟩).length := by rw [← hS, str_size]
                have hSl := rec_long hmr
                have hSm := rec_len ⟨o, t, key, bod, q, g'⟩
                have hS25 : 25 ≤ S.size := by omega
                have hS21 : S.size ≤ 2100 := by omega
                have HS := Lib.hid hS
                have HMR := Lib.hid hmr
                have HSZ := Lib.hid hSz
                have HRJ := Lib.hid hrj
                clear hks hbs hSz hSl hSm hS hmr hX hrj
                go_wp2_with fail
                refine (HBY.out _ HX.out).mono ?_
                rintro e w2 ⟨rfl, hb2⟩
                have HX2 := Lib.hid (HX.out.trans (hb2.mono HX.out.size))
                have HO1' := Lib.hid (own_below HO1.out hb2)
                have HO2' := Lib.hid (own_below HO2.out hb2)
                clear hb2 HX HO1 HO2 HBY d0 d1 d2 d3 d4 d5 q0
                go_wp2_with (go_at_call 12; refine (num_is _ _).mono ?_; rintro e w' ⟨rfl, rfl⟩)
                go_loopw [10] (fun i wr => ∃ u : Nat, u ≤ 8 ∧ i = .int .i64 (u : Int) ∧ Below w2.heap.size w2 wr) (fun i _ => 8 - (RowKit.intOf i).toNat)
                case atStart => exact ⟨0, by omega, rfl, Below.refl _ _⟩
                case round =>
                  obtain ⟨u, hu8, rfl, hnx⟩ := hrel
                  have HY := Lib.hid hnx
                  have hsz2 := hnx.size
                  clear hnx
                  by_cases hu : u < 8
                  · obtain ⟨cx, w5, hcv, hby, hbel⟩ := bytes_conv S wr
                    have HB5 := Lib.hid hby
                    have HY5 := Lib.hid (HY.out.trans (hbel.mono HY.out.size))
                    clear hby hbel
                    have HWI := Lib.hid (fun n W => Within_ex n ((S.size : Int) - 2) W (by omega) (by omega))
                    go_wp2_with fail
                    refine (HWI.out _ _).mono ?_
                    rintro e w' ⟨K, rfl, hKm, rfl⟩
                    clear HWI hcv
                    obtain ⟨a, ha⟩ : ∃ a : Nat, 2 + (K : Int) = (a : Int) := ⟨2 + K, by omega⟩
                    have haS : a < S.size := by omega
                    have ha2 : 2 ≤ a := by omega
                    have HAa := Lib.hid ha
                    clear ha
                    obtain ⟨g, hg⟩ : ∃ g, wr.heap.size = g := ⟨_, rfl⟩
                    have hgw : w2.heap.size ≤ g := by rw [← hg]; exact hsz2
                    rw [hg] at HB5
                    rw [hg]
                    clear hg
                    go_upto_region 21 with fail
                    rw [HAa.out]
                    have hal : a < S.data.toList.length := by rw [size_list]; exact haS
                    obtain ⟨f0, f1⟩ := HB5.out.2 a hal
                    obtain ⟨v, hv⟩ : ∃ v, S.data.toList.getD a 0 = v := ⟨_, rfl⟩
                    rw [hv] at f0
                    obtain ⟨v', hv', hb8⟩ := turn_byte v u hu
                    have HBT := Lib.hid hb8
                    have hm1 : (u : Int) % 8 = (u : Int) := by omega
                    have hm2 : (u : Int).tmod 8 = (u : Int) := by rw [Int.tmod_eq_emod_of_nonneg (by omega)]; exact hm1
                    have HVV := Lib.hid (And.intro hv hv')
                    clear hv hv' hb8 HAa hKm
                    go_still_tail 11, (by kernel_rfl)
                    change wpList _ _ _ _ _ w5.drew
                    have hB6 : BytesAt w5.drew g S.data.toList := HB5.out
                    have hY6 : Below w2.heap.size w2 w5.drew := below_drewN HY5.out 1
                    have z0 : w5.drew.cell? ⟨g, a, none⟩ = some (.int .u8 ((v.toNat : Nat) : Int)) := f0
                    have z1 : w5.drew.frozen? ⟨g, a, none⟩ = false := f1
                    clear f0 f1 HB5 HY5
                    generalize w5.drew = w6 at hB6 hY6 z0 z1 ⊢
                    have HB7 := Lib.hid (hB6.put a v')
                    have HY7 := Lib.hid (hY6.setCell (p := ⟨g, a, none⟩) hgw (.int .u8 ((v'.toNat : Nat) : Int)))
                    clear hB6 hY6
                    go_upto_region 22 with fail
                    rw [HBT.out]
                    clear z0 z1 HBT hm1 hm2
                    generalize w6.setCell _ _ = w7 at HB7 HY7 ⊢
                    have hsl : (S.data.toList.set a v').length = S.size := by rw [List.length_set, size_list]
                    have hcv := HB7.out.conv (c := cx) hsl
                    have hSd : S.data.toList = recL ⟨o, t, key, bod, q, g'⟩ := by rw [← HS.out, str_data]
                    have htk : takeR (str (S.data.toList.set a v')).data.toList = (zero, 0, 8) := by
                      rw [str_data]
                      exact take_turned HMR.out _ a u v v' ha2 (by rw [← HSZ.out]; exact haS) (by rw [← hSd]; exact HVV.out.1) (by rw [hSd]) hu HVV.out.2
                    have HTK := Lib.hid (Take_is (str (S.data.toList.set a v')) zero 0 8 w7 (by rw [str_size, hsl]; omega) (T.out.below (HX2.out.trans (HY7.out.mono HX2.out.size))) htk)
                    have hzr : ragg zero = .agg #[.int .i64 0, .int .i64 0, .string ⟨#[]⟩, .string ⟨#[]⟩, .int .i64 0, .bool false] := rfl
                    rw [hzr] at HTK
                    clear hsl hSd htk hzr hal HVV
                    generalize str (S.data.toList.set a v') = Z at hcv HTK
                    go_wp2_with fail
                    refine HTK.out.mono ?_
                    rintro e w8 ⟨rfl, hb8⟩
                    have HY8 := Lib.hid (HY7.out.trans (hb8.mono HY7.out.size))
                    clear HB7 HY7 hb8 HTK hcv
                    obtain ⟨g9, W4, hg9, hW4, hbn, hbx, _⟩ := box_new HY8.out zcells
                    have HBN := Lib.hid hbn
                    have HY9 := Lib.hid hbx.out.2
                    unfold zcells at hW4
                    have HW4 := Lib.hid hW4
                    clear hbn hbx hW4 HY8
                    go_upto_region 23 with (rw [HW4.out]; refine wpList_store_whole rfl 28 (.tmp 13) (.tmp 103) rfl g9 zcells rfl rfl zcells HBN.out info_rec rfl one_zero ?_; simp only [Act.put])
                    clear HW4 HBN hg9
                    generalize World.setRow _ _ _ = w9 at HY9 ⊢
                    go_wp2_with (go_at_call 12; refine (num_is _ _).mono ?_; rintro e w' ⟨rfl, rfl⟩)
                    go_roundw
                    case rel => exact ⟨u + 1, hu, by go_num, HY9.out⟩
                    case measure => simp [RowKit.intOf]; omega
                  · obtain rfl : u = 8 := by omega
                    have HX3 := Lib.hid (HX2.out.trans (HY.out.mono HX2.out.size))
                    have HR1 := Lib.hid (own_below HO1'.out HY.out)
                    have HR2 := Lib.hid (own_below HO2'.out HY.out)
                    clear HY HX2 HO1' HO2' hsz2
                    have ha3 := HA.out.below HX3.out
                    have q0 := ha3.c0
                    obtain ⟨bp2, op2, hbo, _, hc⟩ := ha3.rs.some_ (by omega)
                    injection hbo with hbo
                    injection hbo with e1 e2
                    subst e1 e2
                    have hr := hc j hj1
                    rw [HRJ.out] at hr
                    obtain ⟨d0, d1, d2, d3, d4, d5⟩ := hr
                    dsimp only at d0 d1 d2 d3 d4 d5
                    rw [HKS.out] at d2
                    rw [HBS.out] at d3
                    obtain ⟨Z, hZ⟩ : ∃ Z, str (allL rs) ++ S = Z := ⟨_, rfl⟩
                    have hZe : Z = str (allL (rs ++ [⟨o, t, key, bod, q, g'⟩])) := by rw [← hZ, ← HS.out, str_add, all_snoc]
                    have hZz : Z.size ≤ 14700 := by rw [← hZ, ByteArray.size_append]; omega
                    have HZ := Lib.hid hZ
                    have HZE := Lib.hid hZe
                    have hz1 : (str (allL rs)).size ≤ 12600 := by omega
                    have hal2 : (allL (rs ++ [⟨o, t, key, bod, q, g'⟩])).length ≤ 2100 * (rs.length + 1) := by
                      rw [all_snoc, List.length_append]
                      have := rec_long HMR.out
                      omega
                    have HAL := Lib.hid hal2
                    clear ha3 hc hZ hZe hsz0 hal hal2 HRJ
                    obtain ⟨i0, hi, hi0, hi1, hi2⟩ := info_parts info_more
                    obtain ⟨k0, hk, hk0, hk1, hk2⟩ := info_parts info_int
                    have hrl6 : rs.length ≤ 6 := by omega
                    go_upto_region 26 with fail
                    rw [HZ.out]
                    clear HZ hz1
                    have hsw := HX3.out.size
                    go_wp2_with (at_builtin; refine wpList_append_own _ rfl _ _ 24 rfl w.heap.size 28 i0 (.agg zcells) 6 64 Tryd.underlying24 hi hi0 hi1 hi2 rfl (by decide) _ _ _ rfl (HR1.out.alloc _) ⟨wr.heap.size, 0, none⟩ 1 1 [.int .i64 o, .int .i64 t, .string ks, .string bs, .int .i64 q, .bool g'] rfl rfl ?m1 ?m2 ?m3 ?m4 ?m5 ?_)
                    case m2 => first | (simp [Value.oneCell']; done) | (intro uu huu; simp at huu; rcases huu with rfl | rfl | rfl | rfl | rfl | rfl <;> rfl)
                    case m3 => unfold maxLen; omega
                    case m4 => omega
                    case m5 => first | omega | (simp; omega)
                    intro v1 w4 hown1 hgrow1 _
                    have hb4 := below_alloc_grown hsw HR1.out hgrow1
                    have hr2 : w4.ownsRow w.heap.size 3 1 (.slice A2 rs.length c2') rs.length ((endsZ rs).map (Value.int .i64)) := own_apart (HR2.out.alloc _) (HR1.out.alloc _) (by decide) hgrow1
                    have HX4 := Lib.hid (HX3.out.trans hb4)
                    have HQ2 := Lib.hid hr2
                    have HQ1 : Hid (w4.ownsRow w.heap.size 28 6 v1 (rs ++ [(⟨o, t, key, bod, q, g'⟩ : Rc)]).length (flat (rs ++ [⟨o, t, key, bod, q, g'⟩]))) := by
                      show World.ownsRow _ _ _ _ _ _ _
                      rw [flat_snoc, List.length_append]
                      have hrc : rcells ⟨o, t, key, bod, q, g'⟩ = [.int .i64 o, .int .i64 t, .string ks, .string bs, .int .i64 q, .bool g'] := by rw [← HKS.out, ← HBS.out]; rfl
                      rw [hrc]
                      exact hown1
                    obtain ⟨A1', c1'', rfl⟩ := own_slice HQ1.out
                    have hsw4 := HX4.out.size
                    clear hown1 hgrow1 hb4 hr2 HX3 HR1 HR2 d0 d1 d2 d3 d4 d5 q0
                    go_wp2_with (at_builtin; refine wpList_append_own _ rfl _ _ 49 rfl w.heap.size 3 k0 (.int .i64 0) 1 8 Tryd.underlying49 hk hk0 hk1 hk2 rfl (by decide) _ _ _ rfl (HQ2.out.alloc _) ⟨w4.heap.size, 0, none⟩ 1 1 [.int .i64 (Z.size : Int)] rfl rfl ?e1 ?e2 ?e3 ?e4 ?e5 ?_)
                    case e1 => exact cell_one_new _ _ _
                    case e2 => first | (simp [Value.oneCell']; done) | (intro uu huu; simp at huu; subst huu; rfl)
                    case e3 => unfold maxLen; omega
                    case e4 => omega
                    case e5 => first | omega | (simp; omega)
                    intro v2 w5 hown2 hgrow2 _
                    have hb5 := below_alloc_grown hsw4 HQ2.out hgrow2
                    have hr1 := own_apart (HQ1.out.alloc (.cells #[.int .i64 (Z.size : Int)] 3)) (HQ2.out.alloc _) (by decide) hgrow2
                    have HX5 := Lib.hid (HX4.out.trans hb5)
                    have HP1 := Lib.hid hr1
                    have hZl : (Z.size : Int) = ((allL (rs ++ [⟨o, t, key, bod, q, g'⟩])).length : Int) := by rw [HZE.out, str_size]
                    have hown3 : w5.ownsRow w.heap.size 3 1 v2 (endsZ (rs ++ [(⟨o, t, key, bod, q, g'⟩ : Rc)])).length ((endsZ (rs ++ [(⟨o, t, key, bod, q, g'⟩ : Rc)])).map (Value.int .i64)) := by
                      rw [ends_len, ends_snoc, List.length_append, List.map_append, ← hZl]
                      exact hown2
                    obtain ⟨A2', c2'', hv2⟩ := own_form hown3
                    rw [ends_len] at hv2 hown3
                    subst hv2
                    have HP2 := Lib.hid hown3
                    clear hown2 hgrow2 hb5 hr1 hown3 HX4 HQ1 HQ2 hZl
                    go_wp2_with fail
                    go_roundw
                    case rel => exact ⟨j + 1, rs ++ [⟨o, t, key, bod, q, g'⟩], A1', A2', c1'', c2'', hj1, hj2, by go_num, by rw [HZE.out], (by first | rfl | (rw [List.length_append]; done) | (rw [List.length_append]; rfl)), (by first | rfl | (rw [List.length_append]; done) | (rw [List.length_append]; rfl)), (fun r hr => by
                      rcases List.mem_append.1 hr with h | h
                      · exact HM.out r h
                      · rw [List.mem_singleton] at h; rw [h]; exact HMR.out), by rw [List.length_append]; show _ + 1 ≤ _; omega, by rw [List.length_append]; exact HAL.out, HP1.out, HP2.out, HX5.out⟩
                    case measure => simp [RowKit.intOf]; omega
              · clear hX hrj hsz0
                obtain ⟨o, t, key, bod, q, g'⟩ := r
                dsimp only at HBY d0 d1 d2 d3 d4 d5
                generalize str key = ks at HBY d2
                generalize str bod = bs at HBY d3
                unfold rarr at HBY
                go_wp2_with fail
                refine (HBY.out _ HX.out).mono ?_
                rintro e w2 ⟨rfl, hb2⟩
                have HX2 := Lib.hid (HX.out.trans (hb2.mono HX.out.size))
                have HO1' := Lib.hid (own_below HO1.out hb2)
                have HO2' := Lib.hid (own_below HO2.out hb2)
                clear hb2 HX HO1 HO2 HBY d0 d1 d2 d3 d4 d5 q0
                go_wp2_with (go_at_call 12; refine (num_is _ _).mono ?_; rintro e w' ⟨rfl, rfl⟩)
                go_roundw
                case rel => exact ⟨j + 1, rs, A1, A2, c1, c2', hj1, hj2, by go_num, rfl, rfl, rfl, HM.out, by omega, hal, HO1'.out, HO2'.out, HX2.out⟩
                case measure => simp [RowKit.intOf]; omega
            · have hrl6 : rs.length ≤ 6 := by omega
              have hZ6 : (str (allL rs)).size ≤ 12600 := by omega
              obtain ⟨Z, hZ⟩ : ∃ Z, str (allL rs) = Z := ⟨_, rfl⟩
              have hZd : Z.data.toList = allL rs := by rw [← hZ, str_data]
              have hZs : Z.size = (allL rs).length := by rw [← hZ, str_size]
              rw [hZ] at hZ6
              have HZ := Lib.hid hZ
              have HZD := Lib.hid hZd
              have HZS := Lib.hid hZs
              clear ha1 hnx hsz0 hal HA
              go_upto_region 10 with fail
              go_cut [49] from 38 to 49 (fun v wx => v = .bool false ∧ wx = wr)
              case first =>
                clear HZ HZD HZS hZ hZd hZs hZ6
                go_wp2_with fail
                all_goals
                  go_meet
                  refine ⟨?_, rfl⟩
                  first | rfl | (congr 1; exact decide_eq_false (by omega))
              case rest =>
                obtain ⟨rfl, rfl⟩ := hcut
                clear q0 hZd hZs
                go_upto_region 28 with fail
                rw [hZ]
                clear hZ
                obtain ⟨V, hV⟩ : ∃ V, V = wc := ⟨_, rfl⟩
                subst hV
                go_wp2_with fail
                go_loopw [16] (fun i wx => ∃ m : Nat, i = .int .i64 (m : Int) ∧ m ≤ 30000 ∧ Below V.heap.size V wx) (fun i _ => Z.size + 1 - (RowKit.intOf i).toNat)
                case atStart => exact ⟨0, rfl, by omega, Below.refl _ _⟩
                case round =>
                  obtain ⟨m, rfl, hm3, hnx⟩ := hrel
                  have HXm := Lib.hid hnx
                  clear hnx
                  by_cases hmz : m ≤ Z.size
                  · obtain ⟨L3, EN, all, hsc, hL3, hLl, hEN, hall, hF1, hF2⟩ := cut_facts rs HM.out m (by rw [← HZS.out]; exact hmz)
                    have HSC := Lib.hid (Scan_is (Z.extract 0 m) L3 EN all wr (by rw [ByteArray.size_extract]; omega) (T.out.below (HX.out.trans (HXm.out.mono HX.out.size))) (by rw [ext_take, HZD.out]; exact hsc))
                    have hEm : EN ≤ 12600 := by
                      rw [hEN]
                      have := all_mono rs L3.length rs.length hLl
                      rw [List.take_length, ← HZS.out] at this
                      omega
                    have HL3 := Lib.hid hL3
                    have HEN := Lib.hid hEN
                    have HF1 := Lib.hid hF1
                    have HF2 := Lib.hid hF2
                    have hb1 : ((EN : Int) == (m : Int)) = all := by
                      rw [← hall]
                      by_cases h : EN = m
                      · rw [decide_eq_true h]; simp [h]
                      · rw [decide_eq_false h]; simp; omega
                    have HB1 := Lib.hid hb1
                    have hmI : (m : Int) ≤ (Z.size : Int) := by omega
                    clear hsc hL3 hEN hall hF1 hF2 hb1
                    go_wp2_with fail
                    refine HSC.out.mono ?_
                    rintro e w9 ⟨A3, c3, rfl, ho3, hb9⟩
                    have HX9 := Lib.hid (HXm.out.trans (hb9.mono HXm.out.size))
                    have HO3 := Lib.hid ho3
                    clear ho3 hb9 HSC
                    have hwz : w9.heap.size = w9.heap.size := rfl
                    go_wp2_with fail
                    go_loopw [20, 21, 22] (fun wh en qv wx => ∃ q : Nat, q ≤ L3.length ∧ wh = .int .i64 (q : Int) ∧ en = .int .i64 ((allL (rs.take q)).length : Int) ∧ qv = .int .i64 (q : Int) ∧ Below w9.heap.size w9 wx) (fun _ _ qv _ => L3.length - (RowKit.intOf qv).toNat)
                    case atStart => exact ⟨0, Nat.zero_le _, rfl, rfl, rfl, Below.refl _ _⟩
                    case round =>
                      obtain ⟨q, hqL, rfl, rfl, rfl, hnx⟩ := hrel
                      have HXq := Lib.hid hnx
                      clear hnx
                      by_cases hq : q < L3.length
                      · have hO2 := own_below (own_below HO2.out HX9.out) HXq.out
                        obtain ⟨g2, rfl, hg2, hc2⟩ := own_ints hO2 (by omega)
                        obtain ⟨ev, he1, he2, he3⟩ := HF1.out q hq
                        have e0 := hc2 q _ he1
                        have hqI : (q : Int) < (rs.length : Int) := by omega
                        have hqd : decide (q < rs.length) = true := decide_eq_true (by omega)
                        have hqd2 : decide ((q : Int) < (rs.length : Int)) = true := decide_eq_true hqI
                        have heI : (ev : Int) ≤ (m : Int) := by omega
                        have hed : decide ((ev : Int) ≤ (m : Int)) = true := decide_eq_true heI
                        have HE2 := Lib.hid he2
                        clear hO2 hc2 he1 he2
                        go_wp2
                        go_quiet (fail)
                        go_wp2
                        go_roundw
                        case rel => exact ⟨q + 1, hq, by go_num, by rw [HE2.out], by go_num, below_drewN HXq.out _⟩
                        case measure => simp [RowKit.intOf]; omega
                      · obtain rfl : q = L3.length := by omega
                        clear HF1 hwz
                        go_upto_region 34 with fail
                        go_cut [157] from 146 to 157 (fun v wx => v = .bool false ∧ wx = wr)
                        case first =>
                          have hO2 := own_below (own_below HO2.out HX9.out) HXq.out
                          by_cases hlt : L3.length < rs.length
                          · obtain ⟨g2, rfl, hg2, hc2⟩ := own_ints hO2 (by omega)
                            obtain ⟨ev, he1, he3⟩ := HF2.out hlt
                            have e0 := hc2 L3.length _ he1
                            have hqI : (L3.length : Int) < (rs.length : Int) := by omega
                            have hqd : decide (L3.length < rs.length) = true := decide_eq_true hlt
                            have hqd2 : decide ((L3.length : Int) < (rs.length : Int)) = true := decide_eq_true hqI
                            have heI : ¬ (ev : Int) ≤ (m : Int) := by omega
                            have hed : decide ((ev : Int) ≤ (m : Int)) = false := decide_eq_false heI
                            clear hO2 hc2 he1 HF2 HO1 HO2 HO3 HEN HB1 HL3
                            go_wp2
                            go_meet
                            exact ⟨rfl, rfl⟩
                          · have hqI : ¬ (L3.length : Int) < (rs.length : Int) := by omega
                            have hqd : decide (L3.length < rs.length) = false := decide_eq_false hlt
                            have hqd2 : decide ((L3.length : Int) < (rs.length : Int)) = false := decide_eq_false hqI
                            clear hO2 HF2 HO1 HO2 HO3 HEN HB1 HL3
                            go_wp2
                            go_meet
                            exact ⟨rfl, rfl⟩
                        case rest =>
                          obtain ⟨rfl, hwc⟩ := hcut
                          rw [hwc]
                          clear hwc
                          have hO1 := own_below (own_below HO1.out HX9.out) HXq.out
                          have hO3 := own_below HO3.out HXq.out
                          have hcap := own_cap hO1
                          rw [← HEN.out]
                          clear HF2 HEN
                          have hrs := (RecsAt.of_own hO1).take L3.length
                          rw [← HL3.out] at hrs
                          have HEQ := Lib.hid (EqRecs_same L3 A3 A1 c3 c1 _ _ wr (by omega) (RecsAt.of_own hO3) hrs)
                          obtain ⟨z, hz⟩ : ∃ z, L3.length = z := ⟨_, rfl⟩
                          have hzr : z ≤ rs.length := by omega
                          have hcI : (z : Int) ≤ (c1 : Int) := by omega
                          rw [hz] at HEQ ⊢
                          clear hq hqL hz hLl
                          rcases hO1.2 with ⟨hv, h0⟩ | ⟨g1, cap, cur, hv, _⟩
                          · injection hv with hv1 hv2 hv3
                            subst hv1
                            subst hv3
                            obtain rfl : z = 0 := by omega
                            clear h0
                            clear hrs hO3 hO1 HO1 HO2 HO3 hv2 hcap HL3
                            have hnl : (all != all) = false := by simp
                            have hnE : ((EN : Int) != (EN : Int)) = false := by simp
                            have hb1 := HB1.out
                            go_wp2_with fail
                            refine HEQ.out.mono ?_
                            rintro e wd ⟨rfl, hbd⟩
                            have HXd := Lib.hid (HX9.out.trans ((HXq.out.mono HX9.out.size).trans (hbd.mono (Nat.le_trans HX9.out.size HXq.out.size))))
                            clear HEQ hbd HX9 HXq
                            go_wp2_with fail
                            have hdv : ((m : Int) + 1 + (Z.size : Int) / 40) = ((m + 1 + Z.size / 40 : Nat) : Int) := by omega
                            go_roundw
                            case rel => exact ⟨m + 1 + Z.size / 40, by rw [← hdv], by omega, HXd.out⟩
                            case measure => simp [RowKit.intOf]; omega
                          · injection hv with hv1 hv2 hv3
                            subst hv1
                            clear hrs hO3 hO1 HO1 HO2 HO3 hv2 hv3 hcap HL3
                            have hnl : (all != all) = false := by simp
                            have hnE : ((EN : Int) != (EN : Int)) = false := by simp
                            have hb1 := HB1.out
                            go_wp2_with fail
                            refine HEQ.out.mono ?_
                            rintro e wd ⟨rfl, hbd⟩
                            have HXd := Lib.hid (HX9.out.trans ((HXq.out.mono HX9.out.size).trans (hbd.mono (Nat.le_trans HX9.out.size HXq.out.size))))
                            clear HEQ hbd HX9 HXq
                            go_wp2_with fail
                            have hdv : ((m : Int) + 1 + (Z.size : Int) / 40) = ((m + 1 + Z.size / 40 : Nat) : Int) := by omega
                            go_roundw
                            case rel => exact ⟨m + 1 + Z.size / 40, by rw [← hdv], by omega, HXd.out⟩
                            case measure => simp [RowKit.intOf]; omega
                  · have hmI : ¬ (m : Int) ≤ (Z.size : Int) := by omega
                    have HXe := Lib.hid (HX.out.trans (HXm.out.mono HX.out.size))
                    clear HXm
                    go_wp2_with fail
                    go_roundw
                    case rel => exact ⟨k + 1, h1, h2, by go_num, HXe.out⟩
                    case measure => simp [RowKit.intOf]; omega
    · have TW := Lib.hid (T.out.below hnx)
      go_wp2_with (go_at_call 14; refine (wakes_any _ TW.out).mono ?_; rintro e w1 ⟨rfl, hb1⟩)
      all_goals (go_ret; exact ⟨rfl, hnx.trans (hb1.mono hnx.size)⟩)
end Go.Proofs.YtimoncjdfmfojaaDoor
