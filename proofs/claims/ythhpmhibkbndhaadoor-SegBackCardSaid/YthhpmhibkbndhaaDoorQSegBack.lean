/- For every script: a segment's bytes are parsed as it; cut off anywhere a beginning of it is told. The table of sums is tied to the program's text. No condition. -/
import Derived.Deep.CutRange
import Derived.Test.YthhpmhibkbndhaaDoorCards
import Derived.SevenTiedAt
import Derived.Test.YthhpmhibkbndhaaDoorQ05
/- SegBack: a segment's bytes are parsed as it; cut off anywhere a beginning of it is told. -/
namespace Go.Proofs.YthhpmhibkbndhaaDoor
open Go.RowKit Go.Lib Vbi Rcd Crc

/-- The script in its box, what was parsed in another, its records in memory. -/
@[irreducible] def SX (w : World) (p g : Nat) (cs : Array Value) (b : Int) (M : List Rc) (A1 : Option Addr) (c1 : Nat) (W : World) : Prop := Duo w p g cs #[.int .i64 b, .slice A1 M.length c1] W ∧ RecsAt W W.heap.size A1 M
section
variable {w W W' : World} {p g : Nat} {cs : Array Value} {b : Int} {M : List Rc} {A1 : Option Addr} {c1 : Nat}
theorem SX.mk (h : Duo w p g cs #[.int .i64 b, .slice A1 M.length c1] W ∧ RecsAt W W.heap.size A1 M) : SX w p g cs b M A1 c1 W := by unfold SX; exact h
theorem SX.out (h : SX w p g cs b M A1 c1 W) : Duo w p g cs #[.int .i64 b, .slice A1 M.length c1] W ∧ RecsAt W W.heap.size A1 M := by unfold SX at h; exact h
theorem SX.below (h : SX w p g cs b M A1 c1 W) (hb : Below W.heap.size W W') : SX w p g cs b M A1 c1 W' := .mk ⟨h.out.1.below hb, h.out.2.on hb⟩
theorem SX.drewN (h : SX w p g cs b M A1 c1 W) (n : Nat) : SX w p g cs b M A1 c1 (W.drewN n) := h.below (below_drewN (Below.refl _ _) n)
end

set_option maxRecDepth 100000 in
set_option maxHeartbeats 32000000 in
theorem SegBack_any (b : Int) (rs L : List Rc) (A B : Option Addr) (D : Option Addr) (c cl kn cn : Nat) (x : ByteArray) (w : World) (hl1 : rs.length ≤ 9223372036854775807) (hl2 : L.length ≤ 9223372036854775807) (hcap : rs.length ≤ c) (hA : RecsAt w w.heap.size A rs) (hB : RecsAt w w.heap.size B L) (ht : Tab w) :
    Calls Tryd.prog 5 #[.agg #[.int .i64 b, .slice A rs.length c, .slice B L.length cl, .slice D kn cn, .string x]] w fun e w' => e = .returned (.bool true) ∧ Below w.heap.size w w' := by
  have HV := Lib.hid (fun W (hb : Below w.heap.size w W) => Heavy_is b rs L A B D c cl kn cn x W hl1 hl2 (hA.on hb) (hB.on hb))
  have HA := Lib.hid hA
  have T := Lib.hid ht
  have HWK := Lib.hid (fun W => wakes_any W)
  have R0 := Lib.hid (RBox.new w 27 #[.int .i64 b, .slice A rs.length c, .slice B L.length cl, .slice D kn cn, .string x])
  obtain ⟨p, hp⟩ : ∃ p, w.heap.size = p := ⟨_, rfl⟩
  obtain ⟨W0, hW⟩ : ∃ W0, w.alloc (.cells #[.int .i64 b, .slice A rs.length c, .slice B L.length cl, .slice D kn cn, .string x] 27) = W0 := ⟨_, rfl⟩
  rw [hW, hp] at R0
  have HW := Lib.hid hW
  have HP := Lib.hid hp
  obtain ⟨E, hE⟩ : ∃ E, segE b rs = E := ⟨_, rfl⟩
  obtain ⟨S, hS⟩ : ∃ S, (E = 0 ∧ str (allL rs) = S) ∨ (¬ E = 0 ∧ S = ⟨#[]⟩) := by
    by_cases h0 : E = 0
    · exact ⟨_, .inl ⟨h0, rfl⟩⟩
    · exact ⟨_, .inr ⟨h0, rfl⟩⟩
  have HTX := Lib.hid (fun W (hb : Below w.heap.size w W) => SegText_is b rs rs.length A c w.heap.size S E W rfl hl1 hcap hb.size (hA.below hb) (ht.below hb) hE hS)
  clear hW hp hA hB ht
  go_enter Tryd.func5, Tryd.ntmps5
  go_upto_region 1 with fail
  rw [HW.out, HP.out]
  clear HW
  have hld := load_script R0.out.out.1 rfl
  go_wp2_with (refine wpList_load_any (by rfl) 27 (.tmp 1) rfl p 0 rfl _ hld ?_; simp only [Act.put])
  refine (HV.out _ R0.out.out.2).mono ?_
  rintro e w1 ⟨v, rfl, _, hb1⟩
  have R1 := Lib.hid (R0.out.below hb1)
  clear R0 hb1 hld HV
  cases v with
  | true =>
    go_wp2_with fail
    go_ret
    exact ⟨rfl, R1.out.out.2⟩
  | false =>
    have hld := load_seg_at (b := b) (v := .slice A rs.length c) (R1.out.cell 0) (R1.out.cell 1)
    go_wp2_with (refine wpList_load_any (by rfl) 24 (.tmp 12) rfl p 0 rfl _ hld ?_; simp only [Act.put])
    refine (HTX.out _ R1.out.out.2).mono ?_
    rintro e w2 ⟨rfl, hb2⟩
    have R2 := Lib.hid (R1.out.below hb2)
    clear R1 hb2 hld HTX
    rcases hS with ⟨rfl, hS⟩ | ⟨h0, rfl⟩
    · have hseg := segE_zero hE
      have hsz : S.size = (allL rs).length := by rw [← hS, str_size]
      have hbase := seg_base hseg
      have HPA := Lib.hid (fun (k : Nat) W (hk : k ≤ S.size) (hb : Below w.heap.size w W) => SegParse_yes b (S.extract 0 k) (rs.take (wholeN rs k)) _ W hbase (by rw [ByteArray.size_extract]; have := seg_size hseg; omega) (T.out.below hb) (by rw [ext_take S k, ← hS, str_data]; exact parse_cut hseg k (by omega)) rfl)
      have hS4 := seg_size hseg
      have HWH := Lib.hid (fun k => whole_end rs k)
      have HWL := Lib.hid (fun k => whole_le rs k)
      have HALL := Lib.hid (show wholeN rs S.size = rs.length by rw [hsz]; exact whole_all rs)
      have hr200 := seg_len hseg
      rw [← hsz] at hS4
      have HSZ := Lib.hid hsz
      clear hE hS hseg hsz hbase
      go_wp2_with (go_at_call 12; refine (num_is _ _).mono ?_; rintro e w' ⟨rfl, rfl⟩)
      go_loopw [5] (fun i wr => ∃ n : Nat, n ≤ S.size + 1 + S.size / 30 ∧ i = .int .i64 (n : Int) ∧ RBox w p #[.int .i64 b, .slice A rs.length c, .slice B L.length cl, .slice D kn cn, .string x] wr) (fun i _ => S.size + 1 - (RowKit.intOf i).toNat)
      case atStart => exact ⟨0, Nat.zero_le _, rfl, R2.out⟩
      case round =>
        obtain ⟨n, hn, rfl, hbx⟩ := hrel
        have R := Lib.hid hbx
        clear hbx R2
        by_cases hlt : n ≤ S.size
        · have e1 : (n : Int) ≤ (S.size : Int) := by omega
          go_upto_if 38 with fail
          go_cut [5] from 39 to 41 (fun s5 wx => ∃ n' : Nat, s5 = .int .i64 (n' : Int) ∧ n ≤ n' ∧ n' ≤ S.size ∧ wx = wr)
          case first =>
            by_cases hnear : (S.size : Int) - (n : Int) ≤ (S.size : Int) / 30
            · go_wp2_with fail
              go_meet
              exact ⟨S.size, rfl, hlt, Nat.le_refl _, rfl⟩
            · go_wp2_with fail
              go_meet
              exact ⟨n, rfl, Nat.le_refl _, hlt, rfl⟩
          case rest =>
            obtain ⟨n', rfl, hnn, hn', rfl⟩ := hcut
            have HPA1 := Lib.hid (fun W (hb : Below w.heap.size w W) => HPA.out n' W hn' hb)
            have hwl := HWL.out n'
            have hwe := HWH.out n'
            have hlen : (rs.take (wholeN rs n')).length = wholeN rs n' := by rw [List.length_take]; omega
            have hend : n' = S.size → (allL (rs.take (wholeN rs n'))).length = S.size ∧ wholeN rs n' = rs.length := by
              intro h
              rw [h, HALL.out]
              exact ⟨by rw [List.take_length, HSZ.out], rfl⟩
            have HTK := Lib.hid (fun W (hb : Below w.heap.size w W) => (HA.out.below hb).take (wholeN rs n'))
            obtain ⟨M, hM⟩ : ∃ M, rs.take (wholeN rs n') = M := ⟨_, rfl⟩
            obtain ⟨kk, hkk⟩ : ∃ kk, (allL M).length = kk := ⟨_, rfl⟩
            rw [hM, hkk] at HPA1
            rw [hM] at hwe hlen hend HTK
            rw [hkk] at hwe hend
            rw [← hlen] at hwl hend
            have HEND := Lib.hid hend
            have e2 : (n' : Int) ≤ (S.size : Int) := by omega
            clear hM hkk hlen hend e1 hlt
            go_upto_region 11 with fail
            go_cut [6, 7, 8] from 42 to 52 (fun s6 s7 s8 wx => ∃ g A1 c1, s6 = .pointer (some ⟨g, 0, none⟩) ∧ s7 = .int .i64 (kk : Int) ∧ s8 = .int .i64 0 ∧ SX w p g #[.int .i64 b, .slice A rs.length c, .slice B L.length cl, .slice D kn cn, .string x] b M A1 c1 wx)
            case first =>
              have hS0 := R.out.drewN 1
              have hpw : w.heap.size ≤ p := Nat.le_of_eq HP.out
              clear R
              refine wp_region_held_drew (S := fun W => RBox w p #[.int .i64 b, .slice A rs.length c, .slice B L.length cl, .slice D kn cn, .string x] W) (by kernel_rfl) hS0 (fun hS => ?_)
              clear hS0
              generalize wc.drew = Wd at hS ⊢
              refine take_op 0 42 ?v1 rfl rfl (by kernel_rfl) (fun _ _ _ h => h) (by rfl) hS (fun w' hS' => ?hv2) ?hh3
              case hv2 => (go_simp; (try with_reducible rfl); (try omega))
              simp only [Act.put, List.setIfInBounds_toArray, List.set_cons_zero, List.set_cons_succ]
              refine take_op 1 43 ?v4 rfl rfl (by kernel_rfl) (fun _ _ _ h => h) (by rfl) hS (fun w' hS' => ?hv5) ?hh6
              case hv5 => (go_simp; (try with_reducible rfl); (try omega))
              simp only [Act.put, List.setIfInBounds_toArray, List.set_cons_zero, List.set_cons_succ]
              refine take_op 2 44 (.int .i64 b) rfl rfl (by kernel_rfl) (fun _ _ _ h => h) (by rfl) hS (fun w' hS' => ?hv7) ?hh8
              case hv7 => (have d0 : w'.cell? ⟨p, 0, none⟩ = some (.int .i64 b) := hS'.cell 0; go_simp; (try with_reducible rfl); (try omega))
              simp only [Act.put, List.setIfInBounds_toArray, List.set_cons_zero, List.set_cons_succ]
              refine take_op 3 45 ?v9 rfl rfl (by kernel_rfl) (fun _ _ _ h => h) (by rfl) hS (fun w' hS' => ?hv10) ?hh11
              case hv10 => (go_simp; (try with_reducible rfl); (try omega))
              simp only [Act.put, List.setIfInBounds_toArray, List.set_cons_zero, List.set_cons_succ]
              refine take_op 4 46 ?v12 rfl rfl (by kernel_rfl) (fun _ _ _ h => h) (by rfl) hS (fun w' hS' => ?hv13) ?hh14
              case hv13 => (go_simp; (try with_reducible rfl); (try omega))
              simp only [Act.put, List.setIfInBounds_toArray, List.set_cons_zero, List.set_cons_succ]
              refine take_op 5 47 (.string (S.extract 0 n')) rfl rfl (by kernel_rfl) (fun _ _ _ h => h) (by rfl) hS (fun w' hS' => ?hv15) ?hh16
              case hv15 => (go_simp; (try with_reducible rfl); (try omega))
              simp only [Act.put, List.setIfInBounds_toArray, List.set_cons_zero, List.set_cons_succ]
              refine two_ops 6 11 rfl rfl (by kernel_rfl) (by rfl) (by rfl) (wp_call_ex 48 21 #[.int .i64 b, .string (S.extract 0 n')] _ rfl (by go_simp) (HPA1.out Wd hS.out.2) ?_) (wp_made 6 (.pointer (some ⟨Wd.heap.size, 0, none⟩)) rfl (w' := Wd.alloc (.cells #[.int .i64 0, .slice none 0 0] 24)) (by go_simp; try rfl) ⟨hS.below ((Below.refl _ _).alloc (Nat.le_refl _) _), ?_⟩)
              · rintro e Wa ⟨A1, c1, rfl, hO, hb3⟩
                refine ⟨_, rfl, hS.below hb3, ?_⟩
                simp only [Act.put, List.setIfInBounds_toArray, List.set_cons_zero, List.set_cons_succ]
                have hS := hS.below hb3
                clear hb3
                refine take_op 7 41 ?v17 rfl rfl (by kernel_rfl) (fun _ _ _ h => h) (by rfl) hS (fun w' hS' => ?hv18) ?hh19
                case hv18 => (go_simp; (try with_reducible rfl); (try omega))
                simp only [Act.put, List.setIfInBounds_toArray, List.set_cons_zero, List.set_cons_succ]
                refine take_op 8 49 (.agg #[.int .i64 b, .slice A1 M.length c1]) rfl rfl (by kernel_rfl) (fun _ _ _ h => h) (by rfl) hS (fun w' hS' => ?hv20) ?hh21
                case hv20 => (go_simp; (try with_reducible rfl); (try omega))
                simp only [Act.put, List.setIfInBounds_toArray, List.set_cons_zero, List.set_cons_succ]
                refine take_op 9 50 (.int .i64 (kk : Int)) rfl rfl (by kernel_rfl) (fun _ _ _ h => h) (by rfl) hS (fun w' hS' => ?hv22) ?hh23
                case hv22 => (go_simp; (try with_reducible rfl); (try omega))
                simp only [Act.put, List.setIfInBounds_toArray, List.set_cons_zero, List.set_cons_succ]
                refine take_op 10 51 (.int .i64 0) rfl rfl (by kernel_rfl) (fun _ _ _ h => h) (by rfl) hS (fun w' hS' => ?hv24) ?hh25
                case hv24 => (go_simp; (try with_reducible rfl); (try omega))
                simp only [Act.put, List.setIfInBounds_toArray, List.set_cons_zero, List.set_cons_succ]
                refine only_op 11 rfl (by kernel_rfl) (by rfl) (wp_made 6 (.pointer (some ⟨Wa.heap.size, 0, none⟩)) rfl (w' := Wa.alloc (.cells #[.int .i64 0, .slice none 0 0] 24)) (by go_simp; try rfl) ⟨hS.below ((Below.refl _ _).alloc (Nat.le_refl _) _), ?_⟩)
                simp only [Act.put, List.setIfInBounds_toArray, List.set_cons_zero, List.set_cons_succ]
                have hQ := SBlk.new Wa #[.int .i64 0, .slice none 0 0]
                have hbl := (Below.refl Wa.heap.size Wa).alloc (Nat.le_refl _) (.cells #[.int .i64 0, .slice none 0 0] 24)
                have hO := own_below hO hbl
                have hpg : p < Wa.heap.size := hS.out.1.lt
                have hS := hS.below hbl
                generalize Wa.alloc _ = Wb at hQ hS hO ⊢
                generalize Wa.heap.size = g at hQ hpg ⊢
                clear hbl
                have hx9 : SX w p g #[.int .i64 b, .slice A rs.length c, .slice B L.length cl, .slice D kn cn, .string x] b M A1 c1 (Wb.setRow g #[.int .i64 b, .slice A1 M.length c1]) := by
                  refine .mk ⟨.mk ⟨setRow_blk hS.out.1 (by omega) _, (hQ.row _).blk, below_row hS.out.2 (by omega) _, hpw, hpg⟩, .of_own (own_seg_row hQ hO _)⟩
                refine only_op 12 rfl (by kernel_rfl) (by rfl) (wp_store_row 24 (.tmp 6) (.tmp 49) rfl g #[.int .i64 b, .slice A1 M.length c1] rfl rfl _ _ hQ info_seg rfl (by simp [Value.oneCell']) ⟨hx9.out.1.box1, ?_⟩)
                (try simp only [put_none])
                refine take_op 13 7 (.int .i64 (kk : Int)) rfl rfl (by kernel_rfl) (fun _ _ _ h => h) (by rfl) hx9.out.1.box1 (fun w' hS' => ?hv26) ?hh27
                case hv26 => (go_simp; (try with_reducible rfl); (try omega))
                simp only [Act.put, List.setIfInBounds_toArray, List.set_cons_zero, List.set_cons_succ]
                refine take_op 14 8 (.int .i64 0) rfl rfl (by kernel_rfl) (fun _ _ _ h => h) (by rfl) hx9.out.1.box1 (fun w' hS' => ?hv28) ?hh29
                case hv28 => (go_simp; (try with_reducible rfl); (try omega))
                simp only [Act.put, List.setIfInBounds_toArray, List.set_cons_zero, List.set_cons_succ]
                refine wpAnyH_done (by kernel_rfl) ?_ _
                go_wp2_with fail
                go_meet
                exact ⟨_, _, _, rfl, rfl, rfl, hx9⟩
              · simp only [Act.put, List.setIfInBounds_toArray, List.set_cons_zero, List.set_cons_succ]
                have hQ := SBlk.new Wd #[.int .i64 0, .slice none 0 0]
                have hbl := (Below.refl Wd.heap.size Wd).alloc (Nat.le_refl _) (.cells #[.int .i64 0, .slice none 0 0] 24)
                have hpg : p < Wd.heap.size := hS.out.1.lt
                have hS := hS.below hbl
                generalize Wd.alloc _ = Wb at hQ hS ⊢
                generalize Wd.heap.size = g at hQ hpg ⊢
                clear hbl
                refine only_op 6 rfl (by kernel_rfl) (by rfl) (wp_call_ex 48 21 #[.int .i64 b, .string (S.extract 0 n')] _ rfl (by go_simp) (HPA1.out Wb hS.out.2) ?_)
                rintro e Wc ⟨A1, c1, rfl, hO, hb3⟩
                refine ⟨_, rfl, hS.below hb3, ?_⟩
                simp only [Act.put, List.setIfInBounds_toArray, List.set_cons_zero, List.set_cons_succ]
                have hS := hS.below hb3
                have hQ := hQ.below hb3
                clear hb3
                refine take_op 7 41 ?v30 rfl rfl (by kernel_rfl) (fun _ _ _ h => h) (by rfl) hS (fun w' hS' => ?hv31) ?hh32
                case hv31 => (go_simp; (try with_reducible rfl); (try omega))
                simp only [Act.put, List.setIfInBounds_toArray, List.set_cons_zero, List.set_cons_succ]
                refine take_op 8 49 (.agg #[.int .i64 b, .slice A1 M.length c1]) rfl rfl (by kernel_rfl) (fun _ _ _ h => h) (by rfl) hS (fun w' hS' => ?hv33) ?hh34
                case hv33 => (go_simp; (try with_reducible rfl); (try omega))
                simp only [Act.put, List.setIfInBounds_toArray, List.set_cons_zero, List.set_cons_succ]
                refine take_op 9 50 (.int .i64 (kk : Int)) rfl rfl (by kernel_rfl) (fun _ _ _ h => h) (by rfl) hS (fun w' hS' => ?hv35) ?hh36
                case hv35 => (go_simp; (try with_reducible rfl); (try omega))
                simp only [Act.put, List.setIfInBounds_toArray, List.set_cons_zero, List.set_cons_succ]
                refine take_op 10 51 (.int .i64 0) rfl rfl (by kernel_rfl) (fun _ _ _ h => h) (by rfl) hS (fun w' hS' => ?hv37) ?hh38
                case hv37 => (go_simp; (try with_reducible rfl); (try omega))
                simp only [Act.put, List.setIfInBounds_toArray, List.set_cons_zero, List.set_cons_succ]
                have hx9 : SX w p g #[.int .i64 b, .slice A rs.length c, .slice B L.length cl, .slice D kn cn, .string x] b M A1 c1 (Wc.setRow g #[.int .i64 b, .slice A1 M.length c1]) := by
                  refine .mk ⟨.mk ⟨setRow_blk hS.out.1 (by omega) _, (hQ.row _).blk, below_row hS.out.2 (by omega) _, hpw, hpg⟩, .of_own (own_seg_row hQ hO _)⟩
                refine only_op 12 rfl (by kernel_rfl) (by rfl) (wp_store_row 24 (.tmp 6) (.tmp 49) rfl g #[.int .i64 b, .slice A1 M.length c1] rfl rfl _ _ hQ info_seg rfl (by simp [Value.oneCell']) ⟨hx9.out.1.box1, ?_⟩)
                (try simp only [put_none])
                refine take_op 13 7 (.int .i64 (kk : Int)) rfl rfl (by kernel_rfl) (fun _ _ _ h => h) (by rfl) hx9.out.1.box1 (fun w' hS' => ?hv39) ?hh40
                case hv39 => (go_simp; (try with_reducible rfl); (try omega))
                simp only [Act.put, List.setIfInBounds_toArray, List.set_cons_zero, List.set_cons_succ]
                refine take_op 14 8 (.int .i64 0) rfl rfl (by kernel_rfl) (fun _ _ _ h => h) (by rfl) hx9.out.1.box1 (fun w' hS' => ?hv41) ?hh42
                case hv41 => (go_simp; (try with_reducible rfl); (try omega))
                simp only [Act.put, List.setIfInBounds_toArray, List.set_cons_zero, List.set_cons_succ]
                refine wpAnyH_done (by kernel_rfl) ?_ _
                go_wp2_with fail
                go_meet
                exact ⟨_, _, _, rfl, rfl, rfl, hx9⟩
            case rest =>
              obtain ⟨g, A1, c1, rfl, rfl, rfl, hx⟩ := hcut
              have X1 := Lib.hid hx
              clear hx R HPA1
              have hmc : M.length ≤ c := Nat.le_trans hwl hcap
              have hm63 : M.length ≤ 9223372036854775807 := by omega
              have HEQ := Lib.hid (fun W (h : SX w p g #[.int .i64 b, .slice A rs.length c, .slice B L.length cl, .slice D kn cn, .string x] b M A1 c1 W) => EqRecs_same M A1 A c1 c W.heap.size w.heap.size W hm63 h.out.2 (HTK.out W h.out.1.bel))
              have hsl := fun W => slice_front A rs.length c M.length W hmc
              have f1 : decide ((n' : Int) < (kk : Int)) = false := decide_eq_false (by omega)
              have f2 : decide (n' < kk) = false := decide_eq_false (by omega)
              have f3 : (b != b) = false := by simp
              have f4 : decide ((rs.length : Int) < (M.length : Int)) = false := decide_eq_false (by omega)
              have f5 : decide (rs.length < M.length) = false := decide_eq_false (by omega)
              go_upto_region 12 with fail
              have st0 := X1.out
              clear X1 HTK
              haveI : Nonempty (In (SX w p g #[.int .i64 b, .slice A rs.length c, .slice B L.length cl, .slice D kn cn, .string x] b M A1 c1)) := ⟨⟨_, st0⟩⟩
              have k0 := fun u : In (SX w p g #[.int .i64 b, .slice A rs.length c, .slice B L.length cl, .slice D kn cn, .string x] b M A1 c1) => (show u.w.cell? ⟨p, 0, none⟩ = some (.int .i64 b) from u.h.out.1.cell1 0)
              have k1 := fun u : In (SX w p g #[.int .i64 b, .slice A rs.length c, .slice B L.length cl, .slice D kn cn, .string x] b M A1 c1) => (show u.w.cell? ⟨p, 1, none⟩ = some (.slice A rs.length c) from u.h.out.1.cell1 1)
              have k2 := fun u : In (SX w p g #[.int .i64 b, .slice A rs.length c, .slice B L.length cl, .slice D kn cn, .string x] b M A1 c1) => (show u.w.cell? ⟨g, 0, none⟩ = some (.int .i64 b) from u.h.out.1.cell2 0)
              have k3 := fun u : In (SX w p g #[.int .i64 b, .slice A rs.length c, .slice B L.length cl, .slice D kn cn, .string x] b M A1 c1) => (show u.w.cell? ⟨g, 1, none⟩ = some (.slice A1 M.length c1) from u.h.out.1.cell2 1)
              have e5 : (n' : Int) + 1 + (S.size : Int) / 30 ≤ 900000 := by omega
              have HR : Hid (((n' : Int) + 1 + (S.size : Int) / 30) = ((n' + 1 + S.size / 30 : Nat) : Int)) := by show _ = _; omega
              by_cases hne : n' = S.size
              · obtain ⟨hk1, hk2⟩ := HEND.out hne
                have f6 : ((n' : Int) == (S.size : Int)) = true := by rw [beq_iff_eq]; omega
                have f7 : (n' == S.size) = true := by rw [beq_iff_eq]; exact hne
                have f8 : ((kk : Int) != (n' : Int)) = false := by rw [bne_eq_false_iff_eq]; omega
                have f9 : (kk != n') = false := by rw [bne_eq_false_iff_eq]; omega
                have f10 : ((M.length : Int) != (rs.length : Int)) = false := by rw [bne_eq_false_iff_eq]; omega
                have f11 : (M.length != rs.length) = false := by rw [bne_eq_false_iff_eq]; omega
                clear hk1 hk2 hne
                refine region_in (S := SX w p g #[.int .i64 b, .slice A rs.length c, .slice B L.length cl, .slice D kn cn, .string x] b M A1 c1) (by kernel_rfl) (by kernel_rfl) (st0.drewN 1) ?_
                iterate 38 (go_big_quiet_step (first | (go_at_call 12; exact in_call ((num_is _ _).mono fun _ _ h => ⟨h.1, h.2 ▸ In.h _⟩)) | (go_at_call 24; exact in_call ((HEQ.out _ (In.h _)).mono fun _ _ h => ⟨h.1, SX.below (In.h _) h.2⟩))))
                (try simp only [Bool.not_true])
                repeat (go_big_quiet_step (fail))
                refine wpQuiet_nil ?_
                rintro _ ⟨⟨w7, st7⟩, rfl⟩
                have S7 := Lib.hid st7
                clear this st0 st7 k0 k1 k2 k3 HEQ
                (try simp only [Bool.not_true, Bool.not_false])
                go_wp2_with fail
                go_roundw
                case rel => exact ⟨n' + 1 + S.size / 30, by omega, by rw [HR.out], S7.out.out.1.box1⟩
                case measure => simp [RowKit.intOf]; omega
              · have f6 : ((n' : Int) == (S.size : Int)) = false := by rw [beq_eq_false_iff_ne]; omega
                have f7 : (n' == S.size) = false := by rw [beq_eq_false_iff_ne]; exact hne
                refine region_in (S := SX w p g #[.int .i64 b, .slice A rs.length c, .slice B L.length cl, .slice D kn cn, .string x] b M A1 c1) (by kernel_rfl) (by kernel_rfl) (st0.drewN 1) ?_
                iterate 38 (go_big_quiet_step (first | (go_at_call 12; exact in_call ((num_is _ _).mono fun _ _ h => ⟨h.1, h.2 ▸ In.h _⟩)) | (go_at_call 24; exact in_call ((HEQ.out _ (In.h _)).mono fun _ _ h => ⟨h.1, SX.below (In.h _) h.2⟩))))
                (try simp only [Bool.not_true])
                repeat (go_big_quiet_step (fail))
                refine wpQuiet_nil ?_
                rintro _ ⟨⟨w7, st7⟩, rfl⟩
                have S7 := Lib.hid st7
                clear this st0 st7 k0 k1 k2 k3 HEQ
                (try simp only [Bool.not_true, Bool.not_false])
                go_wp2_with fail
                go_roundw
                case rel => exact ⟨n' + 1 + S.size / 30, by omega, by rw [HR.out], S7.out.out.1.box1⟩
                case measure => simp [RowKit.intOf]; omega
        · have e1 : ¬ (n : Int) ≤ (S.size : Int) := by omega
          go_wp2_with (go_at_call 18; refine (HWK.out _).mono ?_; rintro e w9 ⟨rfl, hb9⟩)
          go_ret
          exact ⟨rfl, R.out.out.2.trans (hb9.mono R.out.out.2.size)⟩
    · have h0b : (E == 0) = false := by rw [beq_eq_false_iff_ne]; exact h0
      have h0c : (E != 0) = true := by rw [bne_iff_ne]; exact h0
      go_wp2_with (first | (go_at_call 12; refine (num_is _ _).mono ?_; rintro e w' ⟨rfl, rfl⟩) | (go_at_call 18; refine (HWK.out _).mono ?_; rintro e w9 ⟨rfl, hb9⟩))
      go_ret
      exact ⟨rfl, R2.out.out.2.trans (hb9.mono R2.out.out.2.size)⟩
end Go.Proofs.YthhpmhibkbndhaaDoor
/- For every script: a segment's bytes are parsed as it; cut off anywhere a beginning of it is told. The table of sums is tied to the program's text. No condition. -/
namespace Go.Proofs.YthhpmhibkbndhaaDoor.segBack
open Go.ChangeShapes Go.WideShapes Go.ChangeAt Go.RowKit

set_option maxRecDepth 100000 in
theorem lifted (os : Os) (started : os.Started) (H : Type) (enc : TypeId × Value → H) :
    ReturnsInHanded {} Tryd.checked os 5 .any (fun w args => (Rows.segBackSpec.pre enc Tryd.prog Tryd.f5 Rows.segBackRow.domain false w args ∧ laidMetH Tryd.prog theLaid w) ∧ sizedMet enc Tryd.prog Tryd.f5 (OpenSpec.ofChange Rows.segBackSpec) false w args) (Rows.segBackSpec.post enc Tryd.prog Tryd.f5 false true false false) := by
  refine returnsInHanded_of_change_and (C := Tryd.checked) (X := fun w _ => laidMetH Tryd.prog theLaid w) (fun _ _ _ hh h => h.of_heap hh) ownKnob_none started (by kernel_rfl) Tryd.func5
    (ChangeSpec.witness_shaped (enc := enc) (C := Tryd.checked) (os := os) (X := fun w _ => laidMetH Tryd.prog theLaid w) false (World.doorLaid Tryd.prog 400 os) #[.agg #[.int .i64 0, .slice none 0 0, .slice none 0 0, .slice none 0 0, .string ⟨#[]⟩]] 8 rfl (World.shaped_of_RefB (by kernel_rfl) (by kernel_rfl)) (by kernel_rfl) (by kernel_rfl) (by kernel_rfl) (door_met os _)) ?_
  intro W base args ds gs before hval0 hW _ hsz0 hL _
  have hval : ∀ (j : Nat) t v, Tryd.f5.params[j]? = some t → args[j]? = some v → Value.okWide Tryd.prog W .any base t v := hval0
  have hW' := hW
  obtain ⟨p, q, hA0, hV, rfl, _, _⟩ := hW
  have hA : DataW.TrodAll enc Tryd.prog W 0 (fun _ => true) true Tryd.f5.params.toList args.toList ds p := hA0
  rw [Tryd.params5] at hA hval
  obtain ⟨v0, d0, rfl, rfl, h0⟩ := trodAll_one hA
  obtain ⟨rfl, rfl⟩ := trodVars_none hV
  have lt0 : ∀ x ∈ p, x.block < W.heap.size := by obtain ⟨m, hm⟩ := h0; exact DataW.trod_lt m _ _ _ hm
  have near : Near 27 d0 := fun n hn => by
    have := List.all_eq_true.1 hsz0 n (DataW.weights_mem_each (j := 0) (t := 27) (d := d0) (by rw [Tryd.params5]; rfl) rfl n hn)
    simpa using this
  obtain ⟨b, rs, L, ns, A, B, D, c, cl, cn, s, rfl, hs⟩ := script_all (hval 0 27 v0 rfl rfl) near h0
  clear hA0 hval0
  refine (SegBack_any b rs L A B D c cl ns.length cn s W (by have := hs.lA; omega) (by have := hs.lB; omega) hs.cap hs.hA hs.hB (tab_of_laid hL)).mono fun e W' ⟨he, bel⟩ => ?_
  subst he
  exact ⟨_, rfl, _, _, _, [], _, [], hW', trodAll_mk1 (shut_bool Tryd.underlying4 _), trodAll_mk1 (Below.trod laidOut_true (by kernel_rfl) (of_decide_eq_true (by kernel_rfl)) h0 bel lt0), rfl, bel.frame _, fun h => by cases h⟩

theorem over : Rows.segBackRow.holds Tryd.pinned (OpenSpec.ofChange Rows.segBackSpec) :=
  OpenClaim.holds_of_wide 5 Tryd.f5 rfl rfl rfl rfl rfl rfl rfl ⟨rfl, rfl, rfl, rfl, rfl⟩ rfl rfl rfl rfl rfl (by kernel_rfl) Tryd.func5 (by kernel_rfl)
    (of_decide_eq_true (by kernel_rfl)) (by unfold Func.isWrapper; rw [if_neg (of_decide_eq_false (by kernel_rfl))]; exact ⟨rfl, rfl⟩)
    (fun os started H enc _ => lifted os started H enc)

theorem proved : Rows.SegBackCardSaid :=
  Claim7.holds_tied_plain_at .later [] [.data] true _ true
    over (fun _ h => by cases h) (by kernel_rfl) (fun _ h => by cases h) segBack_row_tie rfl ⟨rfl, rfl⟩ (by kernel_rfl) rfl
    (fun f fn hf hfn => by
      obtain rfl : f = 5 := Option.some.inj ((show Tryd.prog.funcNamed "fairway/fairwaylaw11.SegBack" = some 5 by kernel_rfl).symm.trans hf) |>.symm
      obtain rfl : fn = Tryd.f5 := (Option.some.inj (Tryd.func5.symm.trans hfn)).symm
      exact ⟨by kernel_rfl, fun j t ht => by
        rw [Tryd.params5] at ht
        have hm : t ∈ [27] := by simpa using Array.mem_of_getElem? ht
        have hall : ([27].all fun u => !Tryd.prog.wantsStandIn u) = true := by kernel_rfl
        exact (show Tryd.prog.wantsStandIn t = false by simpa using List.all_eq_true.1 hall t hm)⟩)
    (by kernel_rfl)
#print axioms proved
end Go.Proofs.YthhpmhibkbndhaaDoor.segBack
