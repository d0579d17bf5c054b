/- Texts of the proof, part 6: IxLooksYes, Near, RcArg, SgScript. -/
import Derived.Deep.CutRange
import Derived.Test.YtijpieaanlnibaaRows
import Derived.Test.YtijpieaanlnibaaChecked
import Derived.ProofKit
import Derived.Deep.Slices
import Derived.SizedLaws
import Derived.ChangeOld
import Derived.Below
import Derived.ChangeArms
import Derived.Test.YtijpieaanlnibaaV05
/- IndexLooks, of a segment that may be. -/
namespace Go.Proofs.Ytijpieaanlnibaa.Mkd
open Go.RowKit Go.Lib Rcd

set_option maxRecDepth 100000 in
set_option maxHeartbeats 64000000 in
theorem IndexLooks_yes (b : Int) (rs L : List Rc) (ns : List Int) (A B D : Option Addr) (c cl cn : Nat) (x : ByteArray) (w : World) (hl1 : rs.length ≤ 9223372036854775807) (hl2 : L.length ≤ 9223372036854775807) (hl3 : ns.length ≤ 9223372036854775807) (hcap : rs.length ≤ c) (hA : RecsAt w w.heap.size A rs) (hB : RecsAt w w.heap.size B L) (hD : Nums w w.heap.size .i64 D ns) (hM : segB b rs = true) :
    Calls Try.prog 5 #[.agg #[.int .i64 b, .slice A rs.length c, .slice B L.length cl, .slice D ns.length cn, .string x]] w fun e w' => e = .returned (.bool true) ∧ Below w.heap.size w w' := by
  obtain ⟨i0, hi, hz0, hz1, hz2⟩ := info_parts info_mmore
  have HV := Lib.hid (fun W (hb : Below w.heap.size w W) => Heavy_is b rs L A B D c cl ns.length cn x W hl1 hl2 (hA.on hb) (hB.on hb))
  have HSEG := Lib.hid (fun W (hb : Below w.heap.size w W) => RSeg_is b rs rs.length A c w.heap.size true W rfl hl1 hb.size (hA.below hb) hM)
  have HWK := Lib.hid (fun W => wakes_any W)
  have HWI := Lib.hid (fun W => Within_is 3 2 1 W (by decide) (by decide) (by decide))
  obtain ⟨K, hK⟩ : ∃ K, (marks rs).length = K := ⟨_, rfl⟩
  have hK2 : K ≤ 1000 := by
    have := seg_len hM
    rw [← hK, marks_len]
    omega
  have HRM := Lib.hid (fun W (hb : Below w.heap.size w W) => RMarks_is b rs rs.length A c w.heap.size _ K W rfl hb.size (hA.below hb) hM rfl hK)
  have HLO := Lib.hid (fun n l K' E cd W (hb : Below w.heap.size w W) (hK' : List.length l = K') (hk' : K' ≤ 9223372036854775807) (hD' : MarksAt W W.heap.size E l) (hne : ¬ l = marks rs) => Look_others n b rs rs.length A c W.heap.size l K' E cd W rfl hl1 hcap (Nat.le_refl _) ((hA.below hb).mono hb.size) hM hK' hk' hD' hne)
  have HLW := Lib.hid (fun n E cd f Q P Er W (hb : Below w.heap.size w W) (hD' : MarksAt W W.heap.size E (marks rs)) (hF : First (byFind n) rs f) (hV : OwnV b rs n f Q P Er) => Look_own n b rs rs.length A c W.heap.size K E cd f Q P Er W rfl hcap (Nat.le_refl _) ((hA.below hb).mono hb.size) hM hK hD' hF hV)
  have HRF := Lib.hid (fun n f W (hb : Below w.heap.size w W) (hF : First (byFind n) rs f) => RFind_is n rs rs.length A c w.heap.size f _ W rfl hl1 (hA.below hb) hF rfl)
  have HFR := Lib.hid (fun n z E cd W (hD' : MarksAt W W.heap.size E (marks rs)) (hz : fromZ (marks rs) n = z) => RFrom_is n (marks rs) K E cd W.heap.size z W hK (by omega) hD' hz)
  have HOX := Lib.hid (fun n f (hF : First (byFind n) rs f) => own_ex hM hF)
  have HK := Lib.hid hK
  have HLE := Lib.hid (seg_len hM)
  have HA := Lib.hid hA
  clear hK
  have HD := Lib.hid hD
  have R0 := Lib.hid (RBox.new w 27 #[.int .i64 b, .slice A rs.length c, .slice B L.length cl, .slice D ns.length cn, .string x])
  obtain ⟨p, hp⟩ : ∃ p, w.heap.size = p := ⟨_, rfl⟩
  obtain ⟨W0, hW⟩ : ∃ W0, w.alloc (.cells #[.int .i64 b, .slice A rs.length c, .slice B L.length cl, .slice D ns.length cn, .string x] 27) = W0 := ⟨_, rfl⟩
  rw [hW, hp] at R0
  have HW := Lib.hid hW
  have HP := Lib.hid hp
  clear hW hp hA hB hD hM
  go_enter Try.func5, Try.ntmps5
  go_upto_region 1 with fail
  rw [HW.out, HP.out]
  clear HW
  have hld := load_script R0.out.out.1 rfl
  go_wp2_with (refine wpList_load_any (by rfl) 27 (.tmp 1) rfl p 0 rfl _ hld ?_; simp only [Act.put])
  refine (HV.out _ R0.out.out.2).mono ?_
  rintro e w1 ⟨v, rfl, _, hb1⟩
  have R1 := Lib.hid (R0.out.below hb1)
  clear R0 hb1 hld HV
  cases v with
  | true =>
    go_wp2_with fail
    go_ret
    exact ⟨rfl, R1.out.out.2⟩
  | false =>
    have hld := loadSeg R1.out rfl rfl rfl
    go_wp2_with (refine wpList_load_any (by rfl) 24 (.tmp 17) rfl p 0 rfl _ hld ?_; simp only [Act.put])
    refine (HSEG.out _ R1.out.out.2).mono ?_
    rintro e w2 ⟨rfl, hb2⟩
    have R2 := Lib.hid (R1.out.below hb2)
    clear R1 hb2 hld HSEG
    have hld := loadSeg R2.out rfl rfl rfl
    go_wp2_with (refine wpList_load_any (by rfl) 24 (.tmp 21) rfl p 0 rfl _ hld ?_; simp only [Act.put])
    refine (HRM.out _ R2.out.out.2).mono ?_
    rintro e V ⟨A2, c2, rfl, hown2, hb4⟩
    have RV := Lib.hid (R2.out.below hb4)
    have NV := Lib.hid (MarksAt.of_ownN HK.out hown2)
    have hc2 := row_cap hown2
    clear R2 hb4 hld HRM hown2
    have HMV := Lib.hid (fun W (hb : Below V.heap.size V W) => NV.out.on hb)
    go_wp2_with fail
    go_loopw [5] (fun i wr => ∃ k : Nat, k ≤ 20 ∧ k ≤ ns.length ∧ i = .int .i64 (k : Int) ∧ Below V.heap.size V wr) (fun i _ => 20 - (RowKit.intOf i).toNat)
    case atStart => exact ⟨0, by omega, Nat.zero_le _, rfl, Below.refl _ _⟩
    case round =>
      obtain ⟨k, hk20, hkn, rfl, hbel⟩ := hrel
      have HBV := Lib.hid hbel
      clear hbel
      have d3 : wr.cell? ⟨p, 3, none⟩ = some (.slice D ns.length cn) := (RV.out.below HBV.out).cell 3
      by_cases hgo : k < ns.length ∧ k < 20
      · obtain ⟨h1, h2⟩ := hgo
        have e1 : (k : Int) < (ns.length : Int) := by omega
        have e2 : (k : Int) < 20 := by omega
        obtain ⟨ad, rfl, hab, hcd⟩ := (HD.out.below (Below.step RV.out.out.2 HBV.out)).some_ (by omega)
        have hnn := hcd k h1
        obtain ⟨n, hn⟩ : ∃ n, ns.getD k 0 = n := ⟨_, rfl⟩
        rw [hn] at hnn
        obtain ⟨V3, hV3⟩ : ∃ V3, V3 = wr := ⟨_, rfl⟩
        subst hV3
        have hbV : ad.block < V3.heap.size := Nat.lt_of_lt_of_le hab (Below.step RV.out.out.2 HBV.out).size
        have hpV : p < V3.heap.size := (RV.out.below HBV.out).out.1.lt
        have HN3 := Lib.hid (fun W (hb : Below V3.heap.size V3 W) => (hb.cell (p := ad.add k) (by rw [add_block]; exact hbV)).trans hnn)
        have HD33 := Lib.hid (fun W (hb : Below V3.heap.size V3 W) => (hb.cell (p := ⟨p, 3, none⟩) hpV).trans d3)
        have HSG := Lib.hid (fun W (hb : Below V3.heap.size V3 W) => loadSeg (RV.out.below (Below.step HBV.out hb)) (b := b) (v := .slice A rs.length c) rfl rfl rfl)
        have HWB := Lib.hid (fun W (hb : Below V3.heap.size V3 W) => Below.step RV.out.out.2 (Below.step HBV.out hb))
        have HMV3 := Lib.hid (fun W (hb : Below V3.heap.size V3 W) => HMV.out W (Below.step HBV.out hb))
        clear hcd hn hnn hbV hpV
        obtain ⟨f, hF⟩ := first_of (byFind n) rs
        obtain ⟨Q, P, E, hO⟩ := HOX.out n f hF
        obtain ⟨cR, hcR, hR6, hR1, hRne⟩ := rec_cells Q
        have HLC := Lib.hid (fun W (hb : Below V3.heap.size V3 W) => show Calls Try.prog 18 #[.agg #[.int .i64 b, .slice A rs.length c], .slice A2 K c2, .int .i64 n] W (fun e w' => e = .returned (.tuple #[.agg cR, .int .i64 P, .int .i64 E]) ∧ Below W.heap.size W w') from by
          have := HLW.out n A2 c2 f Q P E W (HWB.out W hb) (HMV3.out W hb) hF hO
          rw [hcR] at this
          exact this)
        have HRF1 := Lib.hid (fun W (hb : Below V3.heap.size V3 W) => HRF.out n f W (HWB.out W hb) hF)
        have HR6 := Lib.hid hR6
        have HR1 := Lib.hid hR1
        have HRNE := Lib.hid hRne
        have HO := Lib.hid hO
        have HCR := Lib.hid hcR
        clear hR6 hR1 hRne hO hF hcR
        have HL1 : Hid ((marks rs ++ [(⟨-1, 0⟩ : Mk)]).length = K + 1) := by show _ = _; rw [List.length_append, HK.out]; rfl
        obtain ⟨cZ, hcZ⟩ : ∃ cZ : Array Value, cZ = #[.int .i64 0, .int .i64 0, .string ⟨#[]⟩, .string ⟨#[]⟩, .int .i64 0, .bool false] := ⟨_, rfl⟩
        have HZ6 : Hid (cZ.size = 6) := by show _ = _; rw [hcZ]; rfl
        have HZ1 : Hid (cZ.all (·.oneCell') = true) := by show _ = _; rw [hcZ]; exact one_zero
        have HLK2 := Lib.hid (fun A4 c4 W (hb : Below V3.heap.size V3 W) (hm : MarksAt W W.heap.size A4 (marks rs ++ [⟨-1, 0⟩])) => show Calls Try.prog 18 #[.agg #[.int .i64 b, .slice A rs.length c], .slice A4 (K + 1) c4, .int .i64 n] W (fun e w' => e = .returned (.tuple #[.agg cZ, .int .i64 0, .int .i64 1]) ∧ Below W.heap.size W w') from by
          rw [hcZ]
          exact HLO.out n _ (K + 1) A4 c4 W (HWB.out W hb) HL1.out (by omega) hm (fun e => by
            have h5 := congrArg List.length e
            rw [HL1.out, HK.out] at h5
            omega))
        clear hcZ
        have HCM := Lib.hid (fun W (hb : Below V3.heap.size V3 W) => CopyMarks_is (marks rs) K A2 c2 W.heap.size W HK.out (by omega) (Nat.le_refl _) (HMV3.out W hb))
        go_upto_region 10 with fail
        clear d3
        go_cut [6, 7, 8] from 35 to 47 (fun s6 s7 s8 wx => ∃ g, s6 = .pointer (some ⟨g, 0, none⟩) ∧ s7 = .int .i64 P ∧ s8 = .int .i64 E ∧ Hid (Two V3 g cR wx))
        case first =>
          have hS0 := below_drewN (Below.refl V3.heap.size V3) 1
          refine wp_region_held_drew (S := fun W => Below V3.heap.size V3 W) (by kernel_rfl) hS0 (fun hS => ?_)
          clear hS0
          generalize V3.drew = Wd at hS ⊢
          refine take_op 0 36 ?v2_ rfl rfl (by kernel_rfl) (fun _ _ _ h => h) (by rfl) hS (fun w' hS' => ?hv2_) ?hh2_
          case hv2_ => (go_simp; (try with_reducible rfl); (try omega))
          simp only [Act.put, List.setIfInBounds_toArray, List.set_cons_zero, List.set_cons_succ]
          refine take_load 1 37 24 (.tmp 36) p 0 (.agg #[.int .i64 b, .slice A rs.length c]) rfl rfl (by kernel_rfl) (fun _ _ _ h => h) (by rfl) hS rfl rfl (fun w' hS' => HSG.out w' hS') ?hx2_
          simp only [Act.put, List.setIfInBounds_toArray, List.set_cons_zero, List.set_cons_succ]
          refine take_op 2 38 (.slice A2 K c2) rfl rfl (by kernel_rfl) (fun _ _ _ h => h) (by rfl) hS (fun w' hS' => ?hv3_) ?hh3_
          case hv3_ => (go_simp; (try with_reducible rfl); (try omega))
          simp only [Act.put, List.setIfInBounds_toArray, List.set_cons_zero, List.set_cons_succ]
          refine take_op 3 39 ?v4_ rfl rfl (by kernel_rfl) (fun _ _ _ h => h) (by rfl) hS (fun w' hS' => ?hv4_) ?hh4_
          case hv4_ => (go_simp; (try with_reducible rfl); (try omega))
          simp only [Act.put, List.setIfInBounds_toArray, List.set_cons_zero, List.set_cons_succ]
          refine take_op 4 40 (.slice (some ad) ns.length cn) rfl rfl (by kernel_rfl) (fun _ _ _ h => h) (by rfl) hS (fun w' hS' => ?hv5_) ?hh5_
          case hv5_ => (have d3 := HD33.out w' hS'; go_simp; (try with_reducible rfl); (try omega))
          simp only [Act.put, List.setIfInBounds_toArray, List.set_cons_zero, List.set_cons_succ]
          refine take_op 5 41 ?v6_ rfl rfl (by kernel_rfl) (fun _ _ _ h => h) (by rfl) hS (fun w' hS' => ?hv6_) ?hh6_
          case hv6_ => (go_simp; (try with_reducible rfl); (try omega))
          simp only [Act.put, List.setIfInBounds_toArray, List.set_cons_zero, List.set_cons_succ]
          refine take_op 6 42 (.pointer (some (ad.add k))) rfl rfl (by kernel_rfl) (fun _ _ _ h => h) (by rfl) hS (fun w' hS' => ?hv7_) ?hh7_
          case hv7_ => (go_simp; (try with_reducible rfl); (try omega))
          simp only [Act.put, List.setIfInBounds_toArray, List.set_cons_zero, List.set_cons_succ]
          refine take_op 7 43 (.int .i64 n) rfl rfl (by kernel_rfl) (fun _ _ _ h => h) (by rfl) hS (fun w' hS' => ?hv8_) ?hh8_
          case hv8_ => (have dn := HN3.out w' hS'; go_simp; (try with_reducible rfl); (try omega))
          simp only [Act.put, List.setIfInBounds_toArray, List.set_cons_zero, List.set_cons_succ]
          refine two_ops 8 13 rfl rfl (by kernel_rfl) (by rfl) (by rfl) (wp_call 44 18 #[.agg #[.int .i64 b, .slice A rs.length c], .slice A2 K c2, .int .i64 n] (.tuple #[.agg cR, .int .i64 P, .int .i64 E]) (fun W => Below Wd.heap.size Wd W) rfl (call3_enter rfl rfl rfl rfl cf_look) (HLC.out Wd hS) (fun Wa hb3 => ⟨Below.step hS hb3, ?_⟩)) (wp_made 6 (.pointer (some ⟨Wd.heap.size, 0, none⟩)) rfl (w' := Wd.alloc (.cells #[.int .i64 0, .int .i64 0, .string ⟨#[]⟩, .string ⟨#[]⟩, .int .i64 0, .bool false] 44)) (by go_simp; try rfl) ⟨Below.step hS ((Below.refl _ _).alloc (Nat.le_refl _) _), ?_⟩)
          · simp only [Act.put, List.setIfInBounds_toArray, List.set_cons_zero, List.set_cons_succ]
            have hS := Below.step hS hb3
            clear hb3
            refine take_op 9 35 ?v9_ rfl rfl (by kernel_rfl) (fun _ _ _ h => h) (by rfl) hS (fun w' hS' => ?hv9_) ?hh9_
            case hv9_ => (go_simp; (try with_reducible rfl); (try omega))
            simp only [Act.put, List.setIfInBounds_toArray, List.set_cons_zero, List.set_cons_succ]
            refine take_op 10 45 (.agg cR) rfl rfl (by kernel_rfl) (fun _ _ _ h => h) (by rfl) hS (fun w' hS' => ?hv10_) ?hh10_
            case hv10_ => (go_simp; (try with_reducible rfl); (try omega))
            simp only [Act.put, List.setIfInBounds_toArray, List.set_cons_zero, List.set_cons_succ]
            refine take_op 11 46 (.int .i64 P) rfl rfl (by kernel_rfl) (fun _ _ _ h => h) (by rfl) hS (fun w' hS' => ?hv11_) ?hh11_
            case hv11_ => (go_simp; (try with_reducible rfl); (try omega))
            simp only [Act.put, List.setIfInBounds_toArray, List.set_cons_zero, List.set_cons_succ]
            refine take_op 12 47 (.int .i64 E) rfl rfl (by kernel_rfl) (fun _ _ _ h => h) (by rfl) hS (fun w' hS' => ?hv12_) ?hh12_
            case hv12_ => (go_simp; (try with_reducible rfl); (try omega))
            simp only [Act.put, List.setIfInBounds_toArray, List.set_cons_zero, List.set_cons_succ]
            refine only_op 13 rfl (by kernel_rfl) (by rfl) (wp_made 6 (.pointer (some ⟨Wa.heap.size, 0, none⟩)) rfl (w' := Wa.alloc (.cells #[.int .i64 0, .int .i64 0, .string ⟨#[]⟩, .string ⟨#[]⟩, .int .i64 0, .bool false] 44)) (by go_simp; try rfl) ⟨Below.step hS ((Below.refl _ _).alloc (Nat.le_refl _) _), ?_⟩)
            simp only [Act.put, List.setIfInBounds_toArray, List.set_cons_zero, List.set_cons_succ]
            have hQ := RB.new Wa #[.int .i64 0, .int .i64 0, .string ⟨#[]⟩, .string ⟨#[]⟩, .int .i64 0, .bool false]
            have hbl := (Below.refl Wa.heap.size Wa).alloc (Nat.le_refl _) (.cells #[.int .i64 0, .int .i64 0, .string ⟨#[]⟩, .string ⟨#[]⟩, .int .i64 0, .bool false] 44)
            have hgV : V3.heap.size ≤ Wa.heap.size := hS.size
            have hS := Below.step hS hbl
            generalize Wa.alloc _ = Wb at hQ hS ⊢
            generalize Wa.heap.size = g at hQ hgV ⊢
            clear hbl
            have hS9 := below_row hS hgV cR
            have hx9 : Hid (Two V3 g cR (Wb.setRow g cR)) := Lib.hid (Two.mk ⟨hQ.row cR, hS9, hgV⟩)
            refine only_op 14 rfl (by kernel_rfl) (by rfl) (wp_store_row 44 (.tmp 6) (.tmp 45) rfl g cR rfl rfl _ _ hQ (by rw [info_rec, HR6.out]) (by rw [HR6.out]; rfl) HR1.out ⟨hS9, ?_⟩)
            (try simp only [put_none])
            refine take_op 15 7 (.int .i64 P) rfl rfl (by kernel_rfl) (fun _ _ _ h => h) (by rfl) hS9 (fun w' hS' => ?hv13_) ?hh13_
            case hv13_ => (go_simp; (try with_reducible rfl); (try omega))
            simp only [Act.put, List.setIfInBounds_toArray, List.set_cons_zero, List.set_cons_succ]
            refine take_op 16 8 (.int .i64 E) rfl rfl (by kernel_rfl) (fun _ _ _ h => h) (by rfl) hS9 (fun w' hS' => ?hv14_) ?hh14_
            case hv14_ => (go_simp; (try with_reducible rfl); (try omega))
            simp only [Act.put, List.setIfInBounds_toArray, List.set_cons_zero, List.set_cons_succ]
            refine wpAnyH_done (by kernel_rfl) ?_ _
            go_wp2_with fail
            go_meet
            exact ⟨_, rfl, rfl, rfl, hx9⟩
          · simp only [Act.put, List.setIfInBounds_toArray, List.set_cons_zero, List.set_cons_succ]
            have hQ := RB.new Wd #[.int .i64 0, .int .i64 0, .string ⟨#[]⟩, .string ⟨#[]⟩, .int .i64 0, .bool false]
            have hbl := (Below.refl Wd.heap.size Wd).alloc (Nat.le_refl _) (.cells #[.int .i64 0, .int .i64 0, .string ⟨#[]⟩, .string ⟨#[]⟩, .int .i64 0, .bool false] 44)
            have hgV : V3.heap.size ≤ Wd.heap.size := hS.size
            have hS := Below.step hS hbl
            generalize Wd.alloc _ = Wb at hQ hS ⊢
            generalize Wd.heap.size = g at hQ hgV ⊢
            clear hbl
            refine only_op 8 rfl (by kernel_rfl) (by rfl) (wp_call 44 18 #[.agg #[.int .i64 b, .slice A rs.length c], .slice A2 K c2, .int .i64 n] (.tuple #[.agg cR, .int .i64 P, .int .i64 E]) (fun W => Below Wb.heap.size Wb W) rfl (call3_enter rfl rfl rfl rfl cf_look) (HLC.out Wb hS) (fun Wc hb3 => ⟨Below.step hS hb3, ?_⟩))
            simp only [Act.put, List.setIfInBounds_toArray, List.set_cons_zero, List.set_cons_succ]
            have hS := Below.step hS hb3
            have hQ := hQ.below hb3
            clear hb3
            refine take_op 9 35 ?v15_ rfl rfl (by kernel_rfl) (fun _ _ _ h => h) (by rfl) hS (fun w' hS' => ?hv15_) ?hh15_
            case hv15_ => (go_simp; (try with_reducible rfl); (try omega))
            simp only [Act.put, List.setIfInBounds_toArray, List.set_cons_zero, List.set_cons_succ]
            refine take_op 10 45 (.agg cR) rfl rfl (by kernel_rfl) (fun _ _ _ h => h) (by rfl) hS (fun w' hS' => ?hv16_) ?hh16_
            case hv16_ => (go_simp; (try with_reducible rfl); (try omega))
            simp only [Act.put, List.setIfInBounds_toArray, List.set_cons_zero, List.set_cons_succ]
            refine take_op 11 46 (.int .i64 P) rfl rfl (by kernel_rfl) (fun _ _ _ h => h) (by rfl) hS (fun w' hS' => ?hv17_) ?hh17_
            case hv17_ => (go_simp; (try with_reducible rfl); (try omega))
            simp only [Act.put, List.setIfInBounds_toArray, List.set_cons_zero, List.set_cons_succ]
            refine take_op 12 47 (.int .i64 E) rfl rfl (by kernel_rfl) (fun _ _ _ h => h) (by rfl) hS (fun w' hS' => ?hv18_) ?hh18_
            case hv18_ => (go_simp; (try with_reducible rfl); (try omega))
            simp only [Act.put, List.setIfInBounds_toArray, List.set_cons_zero, List.set_cons_succ]
            have hS9 := below_row hS hgV cR
            have hx9 : Hid (Two V3 g cR (Wc.setRow g cR)) := Lib.hid (Two.mk ⟨hQ.row cR, hS9, hgV⟩)
            refine only_op 14 rfl (by kernel_rfl) (by rfl) (wp_store_row 44 (.tmp 6) (.tmp 45) rfl g cR rfl rfl _ _ hQ (by rw [info_rec, HR6.out]) (by rw [HR6.out]; rfl) HR1.out ⟨hS9, ?_⟩)
            (try simp only [put_none])
            refine take_op 15 7 (.int .i64 P) rfl rfl (by kernel_rfl) (fun _ _ _ h => h) (by rfl) hS9 (fun w' hS' => ?hv19_) ?hh19_
            case hv19_ => (go_simp; (try with_reducible rfl); (try omega))
            simp only [Act.put, List.setIfInBounds_toArray, List.set_cons_zero, List.set_cons_succ]
            refine take_op 16 8 (.int .i64 E) rfl rfl (by kernel_rfl) (fun _ _ _ h => h) (by rfl) hS9 (fun w' hS' => ?hv20_) ?hh20_
            case hv20_ => (go_simp; (try with_reducible rfl); (try omega))
            simp only [Act.put, List.setIfInBounds_toArray, List.set_cons_zero, List.set_cons_succ]
            refine wpAnyH_done (by kernel_rfl) ?_ _
            go_wp2_with fail
            go_meet
            exact ⟨_, rfl, rfl, rfl, hx9⟩
        case rest =>
          obtain ⟨g6, rfl, rfl, rfl, T10⟩ := hcut
          go_upto_region 11 with fail
          go_cut [9, 10, 11] from 48 to 64 (fun s9 s10 s11 wx => s11 = .int .i64 1 ∧ Hid (Two V3 g6 cR wx))
          case first =>
            have hS0 := T10.out.drewN 1
            refine wp_region_held_drew (S := fun W => Two V3 g6 cR W) (by kernel_rfl) hS0 (fun hS => ?_)
            clear hS0
            generalize wc.drew = W0 at hS ⊢
            refine take_op 0 49 ?v22_ rfl rfl (by kernel_rfl) (fun _ _ _ h => h) (by rfl) hS (fun w' hS' => ?hv22_) ?hh22_
            case hv22_ => (go_simp; (try with_reducible rfl); (try omega))
            simp only [Act.put, List.setIfInBounds_toArray, List.set_cons_zero, List.set_cons_succ]
            refine take_load 1 50 24 (.tmp 49) p 0 (.agg #[.int .i64 b, .slice A rs.length c]) rfl rfl (by kernel_rfl) (fun _ _ _ h => h) (by rfl) hS rfl rfl (fun w' hS' => HSG.out w' hS'.bel) ?hx22_
            simp only [Act.put, List.setIfInBounds_toArray, List.set_cons_zero, List.set_cons_succ]
            refine take_op 2 51 (.slice A2 K c2) rfl rfl (by kernel_rfl) (fun _ _ _ h => h) (by rfl) hS (fun w' hS' => ?hv23_) ?hh23_
            case hv23_ => (go_simp; (try with_reducible rfl); (try omega))
            simp only [Act.put, List.setIfInBounds_toArray, List.set_cons_zero, List.set_cons_succ]
            refine take_op 4 53 (.agg #[.int .i64 (-1), .int .i64 0]) rfl rfl (by kernel_rfl) (fun _ _ _ h => h) (by rfl) hS (fun w' hS' => ?hv24_) ?hh24_
            case hv24_ => (go_simp; (try with_reducible rfl); (try omega))
            simp only [Act.put, List.setIfInBounds_toArray, List.set_cons_zero, List.set_cons_succ]
            refine take_op 7 56 ?v25_ rfl rfl (by kernel_rfl) (fun _ _ _ h => h) (by rfl) hS (fun w' hS' => ?hv25_) ?hh25_
            case hv25_ => (go_simp; (try with_reducible rfl); (try omega))
            simp only [Act.put, List.setIfInBounds_toArray, List.set_cons_zero, List.set_cons_succ]
            refine take_op 8 57 (.slice (some ad) ns.length cn) rfl rfl (by kernel_rfl) (fun _ _ _ h => h) (by rfl) hS (fun w' hS' => ?hv26_) ?hh26_
            case hv26_ => (have d3 := HD33.out w' hS'.bel; go_simp; (try with_reducible rfl); (try omega))
            simp only [Act.put, List.setIfInBounds_toArray, List.set_cons_zero, List.set_cons_succ]
            refine take_op 9 58 ?v27_ rfl rfl (by kernel_rfl) (fun _ _ _ h => h) (by rfl) hS (fun w' hS' => ?hv27_) ?hh27_
            case hv27_ => (go_simp; (try with_reducible rfl); (try omega))
            simp only [Act.put, List.setIfInBounds_toArray, List.set_cons_zero, List.set_cons_succ]
            refine take_op 10 59 (.pointer (some (ad.add k))) rfl rfl (by kernel_rfl) (fun _ _ _ h => h) (by rfl) hS (fun w' hS' => ?hv28_) ?hh28_
            case hv28_ => (go_simp; (try with_reducible rfl); (try omega))
            simp only [Act.put, List.setIfInBounds_toArray, List.set_cons_zero, List.set_cons_succ]
            refine take_op 11 60 (.int .i64 n) rfl rfl (by kernel_rfl) (fun _ _ _ h => h) (by rfl) hS (fun w' hS' => ?hv29_) ?hh29_
            case hv29_ => (have dn := HN3.out w' hS'.bel; go_simp; (try with_reducible rfl); (try omega))
            simp only [Act.put, List.setIfInBounds_toArray, List.set_cons_zero, List.set_cons_succ]
            refine three_ops 3 5 17 rfl rfl rfl (by kernel_rfl) (by rfl) (by rfl) (by rfl) (wp_call_ex 52 14 #[.slice A2 K c2] _ rfl (call1_enter rfl rfl cf_copy) (HCM.out W0 hS.bel) ?_) (wp_made 54 (.slice (some ⟨W0.heap.size, 0, none⟩) 1 1) rfl (w' := W0.alloc (.cells #[.int .i64 (-1), .int .i64 0] 42)) (by go_simp; try rfl) ⟨hS.below ((Below.refl _ _).alloc (Nat.le_refl _) _), ?_⟩) (wp_made 9 (.pointer (some ⟨W0.heap.size, 0, none⟩)) rfl (w' := W0.alloc (.cells #[.int .i64 0, .int .i64 0, .string ⟨#[]⟩, .string ⟨#[]⟩, .int .i64 0, .bool false] 44)) (by go_simp; try rfl) ⟨hS.below ((Below.refl _ _).alloc (Nat.le_refl _) _), ?_⟩)
            · rintro e W1 ⟨A3, c3, rfl, hO0, hb⟩
              refine ⟨_, rfl, hS.below hb, ?_⟩
              simp only [Act.put, List.setIfInBounds_toArray, List.set_cons_zero, List.set_cons_succ]
              have OW := own_mono hO0 hS.bel.size
              have hS := hS.below hb
              clear hb hO0
              refine two_ops 5 17 rfl rfl (by kernel_rfl) (by rfl) (by rfl) (wp_made 54 (.slice (some ⟨W1.heap.size, 0, none⟩) 1 1) rfl (w' := W1.alloc (.cells #[.int .i64 (-1), .int .i64 0] 42)) (by go_simp; try rfl) ⟨hS.below ((Below.refl _ _).alloc (Nat.le_refl _) _), ?_⟩) (wp_made 9 (.pointer (some ⟨W1.heap.size, 0, none⟩)) rfl (w' := W1.alloc (.cells #[.int .i64 0, .int .i64 0, .string ⟨#[]⟩, .string ⟨#[]⟩, .int .i64 0, .bool false] 44)) (by go_simp; try rfl) ⟨hS.below ((Below.refl _ _).alloc (Nat.le_refl _) _), ?_⟩)
              · simp only [Act.put, List.setIfInBounds_toArray, List.set_cons_zero, List.set_cons_succ]
                have GW := Blk.new W1 42 #[.int .i64 (-1), .int .i64 0]
                have hbl := (Below.refl W1.heap.size W1).alloc (Nat.le_refl _) (.cells #[.int .i64 (-1), .int .i64 0] 42)
                have hS := hS.below hbl
                have OW := own_below OW hbl
                clear hbl
                generalize W1.alloc _ = W2 at GW hS OW ⊢
                generalize W1.heap.size = g5 at GW ⊢
                refine two_ops 6 17 rfl rfl (by kernel_rfl) (by rfl) (by rfl) (wp_append_mark 55 W2 (.tmp 52) (.tmp 54) rfl rfl i0 hi hz0 hz1 hz2 V3.heap.size _ _ _ rfl OW g5 (-1) 0 rfl GW (by omega) hS.bel.size (fun v' W3 hown' hgrow => ⟨hS.grown OW (Nat.le_refl _) hgrow, ?_⟩)) (wp_made 9 (.pointer (some ⟨W2.heap.size, 0, none⟩)) rfl (w' := W2.alloc (.cells #[.int .i64 0, .int .i64 0, .string ⟨#[]⟩, .string ⟨#[]⟩, .int .i64 0, .bool false] 44)) (by go_simp; try rfl) ⟨hS.below ((Below.refl _ _).alloc (Nat.le_refl _) _), ?_⟩)
                · simp only [Act.put, List.setIfInBounds_toArray, List.set_cons_zero, List.set_cons_succ]
                  have hS := hS.grown OW (Nat.le_refl _) hgrow
                  have hO2 : W3.ownsRow V3.heap.size 42 2 v' (K + 1) (mflat ((marks rs) ++ [⟨-1, 0⟩])) := by rw [mflat_snoc]; exact hown'
                  obtain ⟨A4, c4, rfl⟩ := row_slice hO2
                  have MW := MarksAt.of_ownN HL1.out hO2
                  clear hown' hgrow OW GW hO2
                  refine two_ops 12 17 rfl rfl (by kernel_rfl) (by rfl) (by rfl) (wp_call 61 18 #[.agg #[.int .i64 b, .slice A rs.length c], .slice A4 (K + 1) c4, .int .i64 n] (.tuple #[.agg cZ, .int .i64 0, .int .i64 1]) (fun W => Below W3.heap.size W3 W) rfl (call3_enter rfl rfl rfl rfl cf_look) (HLK2.out A4 c4 W3 hS.bel MW) (fun W4 hb => ⟨hS.below hb, ?_⟩)) (wp_made 9 (.pointer (some ⟨W3.heap.size, 0, none⟩)) rfl (w' := W3.alloc (.cells #[.int .i64 0, .int .i64 0, .string ⟨#[]⟩, .string ⟨#[]⟩, .int .i64 0, .bool false] 44)) (by go_simp; try rfl) ⟨hS.below ((Below.refl _ _).alloc (Nat.le_refl _) _), ?_⟩)
                  · simp only [Act.put, List.setIfInBounds_toArray, List.set_cons_zero, List.set_cons_succ]
                    have hS := hS.below hb
                    clear hb MW
                    refine take_op 13 48 ?v30_ rfl rfl (by kernel_rfl) (fun _ _ _ h => h) (by rfl) hS (fun w' hS' => ?hv30_) ?hh30_
                    case hv30_ => (go_simp; (try with_reducible rfl); (try omega))
                    simp only [Act.put, List.setIfInBounds_toArray, List.set_cons_zero, List.set_cons_succ]
                    refine take_op 14 62 (.agg cZ) rfl rfl (by kernel_rfl) (fun _ _ _ h => h) (by rfl) hS (fun w' hS' => ?hv31_) ?hh31_
                    case hv31_ => (go_simp; (try with_reducible rfl); (try omega))
                    simp only [Act.put, List.setIfInBounds_toArray, List.set_cons_zero, List.set_cons_succ]
                    refine take_op 15 63 (.int .i64 0) rfl rfl (by kernel_rfl) (fun _ _ _ h => h) (by rfl) hS (fun w' hS' => ?hv32_) ?hh32_
                    case hv32_ => (go_simp; (try with_reducible rfl); (try omega))
                    simp only [Act.put, List.setIfInBounds_toArray, List.set_cons_zero, List.set_cons_succ]
                    refine take_op 16 64 (.int .i64 1) rfl rfl (by kernel_rfl) (fun _ _ _ h => h) (by rfl) hS (fun w' hS' => ?hv33_) ?hh33_
                    case hv33_ => (go_simp; (try with_reducible rfl); (try omega))
                    simp only [Act.put, List.setIfInBounds_toArray, List.set_cons_zero, List.set_cons_succ]
                    refine only_op 17 rfl (by kernel_rfl) (by rfl) (wp_made 9 (.pointer (some ⟨W4.heap.size, 0, none⟩)) rfl (w' := W4.alloc (.cells #[.int .i64 0, .int .i64 0, .string ⟨#[]⟩, .string ⟨#[]⟩, .int .i64 0, .bool false] 44)) (by go_simp; try rfl) ⟨hS.below ((Below.refl _ _).alloc (Nat.le_refl _) _), ?_⟩)
                    simp only [Act.put, List.setIfInBounds_toArray, List.set_cons_zero, List.set_cons_succ]
                    have XW := RB.new W4 #[.int .i64 0, .int .i64 0, .string ⟨#[]⟩, .string ⟨#[]⟩, .int .i64 0, .bool false]
                    have hx69 : V3.heap.size ≤ W4.heap.size ∧ W4.heap.size ≠ g6 := ⟨hS.bel.size, by have := hS.lt; omega⟩
                    have hbl := (Below.refl W4.heap.size W4).alloc (Nat.le_refl _) (.cells #[.int .i64 0, .int .i64 0, .string ⟨#[]⟩, .string ⟨#[]⟩, .int .i64 0, .bool false] 44)
                    have hS := hS.below hbl
                    clear hbl
                    generalize W4.alloc _ = W5 at XW hS ⊢
                    generalize W4.heap.size = g9 at XW hx69 ⊢
                    have hS9 := hS.row' hx69.2 hx69.1 cZ
                    refine only_op 18 rfl (by kernel_rfl) (by rfl) (wp_store_row 44 (.tmp 9) (.tmp 62) rfl g9 cZ rfl rfl _ _ XW (by rw [info_rec, HZ6.out]) (by rw [HZ6.out]; rfl) HZ1.out ⟨hS9, ?_⟩)
                    (try simp only [put_none])
                    refine take_op 19 10 (.int .i64 0) rfl rfl (by kernel_rfl) (fun _ _ _ h => h) (by rfl) hS9 (fun w' hS' => ?hv34_) ?hh34_
                    case hv34_ => (go_simp; (try with_reducible rfl); (try omega))
                    simp only [Act.put, List.setIfInBounds_toArray, List.set_cons_zero, List.set_cons_succ]
                    refine take_op 20 11 (.int .i64 1) rfl rfl (by kernel_rfl) (fun _ _ _ h => h) (by rfl) hS9 (fun w' hS' => ?hv35_) ?hh35_
                    case hv35_ => (go_simp; (try with_reducible rfl); (try omega))
                    simp only [Act.put, List.setIfInBounds_toArray, List.set_cons_zero, List.set_cons_succ]
                    have hx9 := Lib.hid hS9
                    refine wpAnyH_done (by kernel_rfl) ?_ _
                    go_wp2_with fail
                    go_meet
                    exact ⟨rfl, hx9⟩
                  · simp only [Act.put, List.setIfInBounds_toArray, List.set_cons_zero, List.set_cons_succ]
                    have XW := RB.new W3 #[.int .i64 0, .int .i64 0, .string ⟨#[]⟩, .string ⟨#[]⟩, .int .i64 0, .bool false]
                    have hx69 : V3.heap.size ≤ W3.heap.size ∧ W3.heap.size ≠ g6 := ⟨hS.bel.size, by have := hS.lt; omega⟩
                    have hbl := (Below.refl W3.heap.size W3).alloc (Nat.le_refl _) (.cells #[.int .i64 0, .int .i64 0, .string ⟨#[]⟩, .string ⟨#[]⟩, .int .i64 0, .bool false] 44)
                    have hS := hS.below hbl
                    have MW := MW.on hbl
                    clear hbl
                    generalize W3.alloc _ = W4 at XW hS MW ⊢
                    generalize W3.heap.size = g9 at XW hx69 ⊢
                    refine only_op 12 rfl (by kernel_rfl) (by rfl) (wp_call 61 18 #[.agg #[.int .i64 b, .slice A rs.length c], .slice A4 (K + 1) c4, .int .i64 n] (.tuple #[.agg cZ, .int .i64 0, .int .i64 1]) (fun W => Below W4.heap.size W4 W) rfl (call3_enter rfl rfl rfl rfl cf_look) (HLK2.out A4 c4 W4 hS.bel MW) (fun W5 hb => ⟨hS.below hb, ?_⟩))
                    simp only [Act.put, List.setIfInBounds_toArray, List.set_cons_zero, List.set_cons_succ]
                    have hS := hS.below hb
                    have XW := XW.below hb
                    clear hb MW
                    refine take_op 13 48 ?v36_ rfl rfl (by kernel_rfl) (fun _ _ _ h => h) (by rfl) hS (fun w' hS' => ?hv36_) ?hh36_
                    case hv36_ => (go_simp; (try with_reducible rfl); (try omega))
                    simp only [Act.put, List.setIfInBounds_toArray, List.set_cons_zero, List.set_cons_succ]
                    refine take_op 14 62 (.agg cZ) rfl rfl (by kernel_rfl) (fun _ _ _ h => h) (by rfl) hS (fun w' hS' => ?hv37_) ?hh37_
                    case hv37_ => (go_simp; (try with_reducible rfl); (try omega))
                    simp only [Act.put, List.setIfInBounds_toArray, List.set_cons_zero, List.set_cons_succ]
                    refine take_op 15 63 (.int .i64 0) rfl rfl (by kernel_rfl) (fun _ _ _ h => h) (by rfl) hS (fun w' hS' => ?hv38_) ?hh38_
                    case hv38_ => (go_simp; (try with_reducible rfl); (try omega))
                    simp only [Act.put, List.setIfInBounds_toArray, List.set_cons_zero, List.set_cons_succ]
                    refine take_op 16 64 (.int .i64 1) rfl rfl (by kernel_rfl) (fun _ _ _ h => h) (by rfl) hS (fun w' hS' => ?hv39_) ?hh39_
                    case hv39_ => (go_simp; (try with_reducible rfl); (try omega))
                    simp only [Act.put, List.setIfInBounds_toArray, List.set_cons_zero, List.set_cons_succ]
                    have hS9 := hS.row' hx69.2 hx69.1 cZ
                    refine only_op 18 rfl (by kernel_rfl) (by rfl) (wp_store_row 44 (.tmp 9) (.tmp 62) rfl g9 cZ rfl rfl _ _ XW (by rw [info_rec, HZ6.out]) (by rw [HZ6.out]; rfl) HZ1.out ⟨hS9, ?_⟩)
                    (try simp only [put_none])
                    refine take_op 19 10 (.int .i64 0) rfl rfl (by kernel_rfl) (fun _ _ _ h => h) (by rfl) hS9 (fun w' hS' => ?hv40_) ?hh40_
                    case hv40_ => (go_simp; (try with_reducible rfl); (try omega))
                    simp only [Act.put, List.setIfInBounds_toArray, List.set_cons_zero, List.set_cons_succ]
                    refine take_op 20 11 (.int .i64 1) rfl rfl (by kernel_rfl) (fun _ _ _ h => h) (by rfl) hS9 (fun w' hS' => ?hv41_) ?hh41_
                    case hv41_ => (go_simp; (try with_reducible rfl); (try omega))
                    simp only [Act.put, List.setIfInBounds_toArray, List.set_cons_zero, List.set_cons_succ]
                    have hx9 := Lib.hid hS9
                    refine wpAnyH_done (by kernel_rfl) ?_ _
                    go_wp2_with fail
                    go_meet
                    exact ⟨rfl, hx9⟩
                · simp only [Act.put, List.setIfInBounds_toArray, List.set_cons_zero, List.set_cons_succ]
                  have XW := RB.new W2 #[.int .i64 0, .int .i64 0, .string ⟨#[]⟩, .string ⟨#[]⟩, .int .i64 0, .bool false]
                  have hx69 : V3.heap.size ≤ W2.heap.size ∧ W2.heap.size ≠ g6 := ⟨hS.bel.size, by have := hS.lt; omega⟩
                  have hbl := (Below.refl W2.heap.size W2).alloc (Nat.le_refl _) (.cells #[.int .i64 0, .int .i64 0, .string ⟨#[]⟩, .string ⟨#[]⟩, .int .i64 0, .bool false] 44)
                  have hS := hS.below hbl
                  have OW := own_below OW hbl
                  have GW := GW.below hbl
                  clear hbl
                  generalize W2.alloc _ = W3 at XW hS OW GW ⊢
                  generalize W2.heap.size = g9 at XW hx69 ⊢
                  refine only_op 6 rfl (by kernel_rfl) (by rfl) (wp_append_mark 55 W3 (.tmp 52) (.tmp 54) rfl rfl i0 hi hz0 hz1 hz2 V3.heap.size _ _ _ rfl OW g5 (-1) 0 rfl GW (by omega) hS.bel.size (fun v' W4 hown' hgrow => ⟨hS.grown OW (Nat.le_refl _) hgrow, ?_⟩))
                  simp only [Act.put, List.setIfInBounds_toArray, List.set_cons_zero, List.set_cons_succ]
                  have hS := hS.grown OW (Nat.le_refl _) hgrow
                  have XW := XW.grown OW hgrow
                  have hO2 : W4.ownsRow V3.heap.size 42 2 v' (K + 1) (mflat ((marks rs) ++ [⟨-1, 0⟩])) := by rw [mflat_snoc]; exact hown'
                  obtain ⟨A4, c4, rfl⟩ := row_slice hO2
                  have MW := MarksAt.of_ownN HL1.out hO2
                  clear hown' hgrow OW GW hO2
                  refine only_op 12 rfl (by kernel_rfl) (by rfl) (wp_call 61 18 #[.agg #[.int .i64 b, .slice A rs.length c], .slice A4 (K + 1) c4, .int .i64 n] (.tuple #[.agg cZ, .int .i64 0, .int .i64 1]) (fun W => Below W4.heap.size W4 W) rfl (call3_enter rfl rfl rfl rfl cf_look) (HLK2.out A4 c4 W4 hS.bel MW) (fun W5 hb => ⟨hS.below hb, ?_⟩))
                  simp only [Act.put, List.setIfInBounds_toArray, List.set_cons_zero, List.set_cons_succ]
                  have hS := hS.below hb
                  have XW := XW.below hb
                  clear hb MW
                  refine take_op 13 48 ?v42_ rfl rfl (by kernel_rfl) (fun _ _ _ h => h) (by rfl) hS (fun w' hS' => ?hv42_) ?hh42_
                  case hv42_ => (go_simp; (try with_reducible rfl); (try omega))
                  simp only [Act.put, List.setIfInBounds_toArray, List.set_cons_zero, List.set_cons_succ]
                  refine take_op 14 62 (.agg cZ) rfl rfl (by kernel_rfl) (fun _ _ _ h => h) (by rfl) hS (fun w' hS' => ?hv43_) ?hh43_
                  case hv43_ => (go_simp; (try with_reducible rfl); (try omega))
                  simp only [Act.put, List.setIfInBounds_toArray, List.set_cons_zero, List.set_cons_succ]
                  refine take_op 15 63 (.int .i64 0) rfl rfl (by kernel_rfl) (fun _ _ _ h => h) (by rfl) hS (fun w' hS' => ?hv44_) ?hh44_
                  case hv44_ => (go_simp; (try with_reducible rfl); (try omega))
                  simp only [Act.put, List.setIfInBounds_toArray, List.set_cons_zero, List.set_cons_succ]
                  refine take_op 16 64 (.int .i64 1) rfl rfl (by kernel_rfl) (fun _ _ _ h => h) (by rfl) hS (fun w' hS' => ?hv45_) ?hh45_
                  case hv45_ => (go_simp; (try with_reducible rfl); (try omega))
                  simp only [Act.put, List.setIfInBounds_toArray, List.set_cons_zero, List.set_cons_succ]
                  have hS9 := hS.row' hx69.2 hx69.1 cZ
                  refine only_op 18 rfl (by kernel_rfl) (by rfl) (wp_store_row 44 (.tmp 9) (.tmp 62) rfl g9 cZ rfl rfl _ _ XW (by rw [info_rec, HZ6.out]) (by rw [HZ6.out]; rfl) HZ1.out ⟨hS9, ?_⟩)
                  (try simp only [put_none])
                  refine take_op 19 10 (.int .i64 0) rfl rfl (by kernel_rfl) (fun _ _ _ h => h) (by rfl) hS9 (fun w' hS' => ?hv46_) ?hh46_
                  case hv46_ => (go_simp; (try with_reducible rfl); (try omega))
                  simp only [Act.put, List.setIfInBounds_toArray, List.set_cons_zero, List.set_cons_succ]
                  refine take_op 20 11 (.int .i64 1) rfl rfl (by kernel_rfl) (fun _ _ _ h => h) (by rfl) hS9 (fun w' hS' => ?hv47_) ?hh47_
                  case hv47_ => (go_simp; (try with_reducible rfl); (try omega))
                  simp only [Act.put, List.setIfInBounds_toArray, List.set_cons_zero, List.set_cons_succ]
                  have hx9 := Lib.hid hS9
                  refine wpAnyH_done (by kernel_rfl) ?_ _
                  go_wp2_with fail
                  go_meet
                  exact ⟨rfl, hx9⟩
              · simp only [Act.put, List.setIfInBounds_toArray, List.set_cons_zero, List.set_cons_succ]
                have XW := RB.new W1 #[.int .i64 0, .int .i64 0, .string ⟨#[]⟩, .string ⟨#[]⟩, .int .i64 0, .bool false]
                have hx69 : V3.heap.size ≤ W1.heap.size ∧ W1.heap.size ≠ g6 := ⟨hS.bel.size, by have := hS.lt; omega⟩
                have hbl := (Below.refl W1.heap.size W1).alloc (Nat.le_refl _) (.cells #[.int .i64 0, .int .i64 0, .string ⟨#[]⟩, .string ⟨#[]⟩, .int .i64 0, .bool false] 44)
                have hS := hS.below hbl
                have OW := own_below OW hbl
                clear hbl
                generalize W1.alloc _ = W2 at XW hS OW ⊢
                generalize W1.heap.size = g9 at XW hx69 ⊢
                refine only_op 5 rfl (by kernel_rfl) (by rfl) (wp_made 54 (.slice (some ⟨W2.heap.size, 0, none⟩) 1 1) rfl (w' := W2.alloc (.cells #[.int .i64 (-1), .int .i64 0] 42)) (by go_simp; try rfl) ⟨hS.below ((Below.refl _ _).alloc (Nat.le_refl _) _), ?_⟩)
                simp only [Act.put, List.setIfInBounds_toArray, List.set_cons_zero, List.set_cons_succ]
                have GW := Blk.new W2 42 #[.int .i64 (-1), .int .i64 0]
                have hbl := (Below.refl W2.heap.size W2).alloc (Nat.le_refl _) (.cells #[.int .i64 (-1), .int .i64 0] 42)
                have hS := hS.below hbl
                have OW := own_below OW hbl
                have XW := XW.below hbl
                clear hbl
                generalize W2.alloc _ = W3 at GW hS OW XW ⊢
                generalize W2.heap.size = g5 at GW ⊢
                refine only_op 6 rfl (by kernel_rfl) (by rfl) (wp_append_mark 55 W3 (.tmp 52) (.tmp 54) rfl rfl i0 hi hz0 hz1 hz2 V3.heap.size _ _ _ rfl OW g5 (-1) 0 rfl GW (by omega) hS.bel.size (fun v' W4 hown' hgrow => ⟨hS.grown OW (Nat.le_refl _) hgrow, ?_⟩))
                simp only [Act.put, List.setIfInBounds_toArray, List.set_cons_zero, List.set_cons_succ]
                have hS := hS.grown OW (Nat.le_refl _) hgrow
                have XW := XW.grown OW hgrow
                have hO2 : W4.ownsRow V3.heap.size 42 2 v' (K + 1) (mflat ((marks rs) ++ [⟨-1, 0⟩])) := by rw [mflat_snoc]; exact hown'
                obtain ⟨A4, c4, rfl⟩ := row_slice hO2
                have MW := MarksAt.of_ownN HL1.out hO2
                clear hown' hgrow OW GW hO2
                refine only_op 12 rfl (by kernel_rfl) (by rfl) (wp_call 61 18 #[.agg #[.int .i64 b, .slice A rs.length c], .slice A4 (K + 1) c4, .int .i64 n] (.tuple #[.agg cZ, .int .i64 0, .int .i64 1]) (fun W => Below W4.heap.size W4 W) rfl (call3_enter rfl rfl rfl rfl cf_look) (HLK2.out A4 c4 W4 hS.bel MW) (fun W5 hb => ⟨hS.below hb, ?_⟩))
                simp only [Act.put, List.setIfInBounds_toArray, List.set_cons_zero, List.set_cons_succ]
                have hS := hS.below hb
                have XW := XW.below hb
                clear hb MW
                refine take_op 13 48 ?v48_ rfl rfl (by kernel_rfl) (fun _ _ _ h => h) (by rfl) hS (fun w' hS' => ?hv48_) ?hh48_
                case hv48_ => (go_simp; (try with_reducible rfl); (try omega))
                simp only [Act.put, List.setIfInBounds_toArray, List.set_cons_zero, List.set_cons_succ]
                refine take_op 14 62 (.agg cZ) rfl rfl (by kernel_rfl) (fun _ _ _ h => h) (by rfl) hS (fun w' hS' => ?hv49_) ?hh49_
                case hv49_ => (go_simp; (try with_reducible rfl); (try omega))
                simp only [Act.put, List.setIfInBounds_toArray, List.set_cons_zero, List.set_cons_succ]
                refine take_op 15 63 (.int .i64 0) rfl rfl (by kernel_rfl) (fun _ _ _ h => h) (by rfl) hS (fun w' hS' => ?hv50_) ?hh50_
                case hv50_ => (go_simp; (try with_reducible rfl); (try omega))
                simp only [Act.put, List.setIfInBounds_toArray, List.set_cons_zero, List.set_cons_succ]
                refine take_op 16 64 (.int .i64 1) rfl rfl (by kernel_rfl) (fun _ _ _ h => h) (by rfl) hS (fun w' hS' => ?hv51_) ?hh51_
                case hv51_ => (go_simp; (try with_reducible rfl); (try omega))
                simp only [Act.put, List.setIfInBounds_toArray, List.set_cons_zero, List.set_cons_succ]
                have hS9 := hS.row' hx69.2 hx69.1 cZ
                refine only_op 18 rfl (by kernel_rfl) (by rfl) (wp_store_row 44 (.tmp 9) (.tmp 62) rfl g9 cZ rfl rfl _ _ XW (by rw [info_rec, HZ6.out]) (by rw [HZ6.out]; rfl) HZ1.out ⟨hS9, ?_⟩)
                (try simp only [put_none])
                refine take_op 19 10 (.int .i64 0) rfl rfl (by kernel_rfl) (fun _ _ _ h => h) (by rfl) hS9 (fun w' hS' => ?hv52_) ?hh52_
                case hv52_ => (go_simp; (try with_reducible rfl); (try omega))
                simp only [Act.put, List.setIfInBounds_toArray, List.set_cons_zero, List.set_cons_succ]
                refine take_op 20 11 (.int .i64 1) rfl rfl (by kernel_rfl) (fun _ _ _ h => h) (by rfl) hS9 (fun w' hS' => ?hv53_) ?hh53_
                case hv53_ => (go_simp; (try with_reducible rfl); (try omega))
                simp only [Act.put, List.setIfInBounds_toArray, List.set_cons_zero, List.set_cons_succ]
                have hx9 := Lib.hid hS9
                refine wpAnyH_done (by kernel_rfl) ?_ _
                go_wp2_with fail
                go_meet
                exact ⟨rfl, hx9⟩
            · simp only [Act.put, List.setIfInBounds_toArray, List.set_cons_zero, List.set_cons_succ]
              have GW := Blk.new W0 42 #[.int .i64 (-1), .int .i64 0]
              have hbl := (Below.refl W0.heap.size W0).alloc (Nat.le_refl _) (.cells #[.int .i64 (-1), .int .i64 0] 42)
              have hS := hS.below hbl
              clear hbl
              generalize W0.alloc _ = W1 at GW hS ⊢
              generalize W0.heap.size = g5 at GW ⊢
              refine two_ops 3 17 rfl rfl (by kernel_rfl) (by rfl) (by rfl) (wp_call_ex 52 14 #[.slice A2 K c2] _ rfl (call1_enter rfl rfl cf_copy) (HCM.out W1 hS.bel) ?_) (wp_made 9 (.pointer (some ⟨W1.heap.size, 0, none⟩)) rfl (w' := W1.alloc (.cells #[.int .i64 0, .int .i64 0, .string ⟨#[]⟩, .string ⟨#[]⟩, .int .i64 0, .bool false] 44)) (by go_simp; try rfl) ⟨hS.below ((Below.refl _ _).alloc (Nat.le_refl _) _), ?_⟩)
              · rintro e W2 ⟨A3, c3, rfl, hO0, hb⟩
                refine ⟨_, rfl, hS.below hb, ?_⟩
                simp only [Act.put, List.setIfInBounds_toArray, List.set_cons_zero, List.set_cons_succ]
                have OW := own_mono hO0 hS.bel.size
                have hS := hS.below hb
                have GW := GW.below hb
                clear hb hO0
                refine two_ops 6 17 rfl rfl (by kernel_rfl) (by rfl) (by rfl) (wp_append_mark 55 W2 (.tmp 52) (.tmp 54) rfl rfl i0 hi hz0 hz1 hz2 V3.heap.size _ _ _ rfl OW g5 (-1) 0 rfl GW (by omega) hS.bel.size (fun v' W3 hown' hgrow => ⟨hS.grown OW (Nat.le_refl _) hgrow, ?_⟩)) (wp_made 9 (.pointer (some ⟨W2.heap.size, 0, none⟩)) rfl (w' := W2.alloc (.cells #[.int .i64 0, .int .i64 0, .string ⟨#[]⟩, .string ⟨#[]⟩, .int .i64 0, .bool false] 44)) (by go_simp; try rfl) ⟨hS.below ((Below.refl _ _).alloc (Nat.le_refl _) _), ?_⟩)
                · simp only [Act.put, List.setIfInBounds_toArray, List.set_cons_zero, List.set_cons_succ]
                  have hS := hS.grown OW (Nat.le_refl _) hgrow
                  have hO2 : W3.ownsRow V3.heap.size 42 2 v' (K + 1) (mflat ((marks rs) ++ [⟨-1, 0⟩])) := by rw [mflat_snoc]; exact hown'
                  obtain ⟨A4, c4, rfl⟩ := row_slice hO2
                  have MW := MarksAt.of_ownN HL1.out hO2
                  clear hown' hgrow OW GW hO2
                  refine two_ops 12 17 rfl rfl (by kernel_rfl) (by rfl) (by rfl) (wp_call 61 18 #[.agg #[.int .i64 b, .slice A rs.length c], .slice A4 (K + 1) c4, .int .i64 n] (.tuple #[.agg cZ, .int .i64 0, .int .i64 1]) (fun W => Below W3.heap.size W3 W) rfl (call3_enter rfl rfl rfl rfl cf_look) (HLK2.out A4 c4 W3 hS.bel MW) (fun W4 hb => ⟨hS.below hb, ?_⟩)) (wp_made 9 (.pointer (some ⟨W3.heap.size, 0, none⟩)) rfl (w' := W3.alloc (.cells #[.int .i64 0, .int .i64 0, .string ⟨#[]⟩, .string ⟨#[]⟩, .int .i64 0, .bool false] 44)) (by go_simp; try rfl) ⟨hS.below ((Below.refl _ _).alloc (Nat.le_refl _) _), ?_⟩)
                  · simp only [Act.put, List.setIfInBounds_toArray, List.set_cons_zero, List.set_cons_succ]
                    have hS := hS.below hb
                    clear hb MW
                    refine take_op 13 48 ?v54_ rfl rfl (by kernel_rfl) (fun _ _ _ h => h) (by rfl) hS (fun w' hS' => ?hv54_) ?hh54_
                    case hv54_ => (go_simp; (try with_reducible rfl); (try omega))
                    simp only [Act.put, List.setIfInBounds_toArray, List.set_cons_zero, List.set_cons_succ]
                    refine take_op 14 62 (.agg cZ) rfl rfl (by kernel_rfl) (fun _ _ _ h => h) (by rfl) hS (fun w' hS' => ?hv55_) ?hh55_
                    case hv55_ => (go_simp; (try with_reducible rfl); (try omega))
                    simp only [Act.put, List.setIfInBounds_toArray, List.set_cons_zero, List.set_cons_succ]
                    refine take_op 15 63 (.int .i64 0) rfl rfl (by kernel_rfl) (fun _ _ _ h => h) (by rfl) hS (fun w' hS' => ?hv56_) ?hh56_
                    case hv56_ => (go_simp; (try with_reducible rfl); (try omega))
                    simp only [Act.put, List.setIfInBounds_toArray, List.set_cons_zero, List.set_cons_succ]
                    refine take_op 16 64 (.int .i64 1) rfl rfl (by kernel_rfl) (fun _ _ _ h => h) (by rfl) hS (fun w' hS' => ?hv57_) ?hh57_
                    case hv57_ => (go_simp; (try with_reducible rfl); (try omega))
                    simp only [Act.put, List.setIfInBounds_toArray, List.set_cons_zero, List.set_cons_succ]
                    refine only_op 17 rfl (by kernel_rfl) (by rfl) (wp_made 9 (.pointer (some ⟨W4.heap.size, 0, none⟩)) rfl (w' := W4.alloc (.cells #[.int .i64 0, .int .i64 0, .string ⟨#[]⟩, .string ⟨#[]⟩, .int .i64 0, .bool false] 44)) (by go_simp; try rfl) ⟨hS.below ((Below.refl _ _).alloc (Nat.le_refl _) _), ?_⟩)
                    simp only [Act.put, List.setIfInBounds_toArray, List.set_cons_zero, List.set_cons_succ]
                    have XW := RB.new W4 #[.int .i64 0, .int .i64 0, .string ⟨#[]⟩, .string ⟨#[]⟩, .int .i64 0, .bool false]
                    have hx69 : V3.heap.size ≤ W4.heap.size ∧ W4.heap.size ≠ g6 := ⟨hS.bel.size, by have := hS.lt; omega⟩
                    have hbl := (Below.refl W4.heap.size W4).alloc (Nat.le_refl _) (.cells #[.int .i64 0, .int .i64 0, .string ⟨#[]⟩, .string ⟨#[]⟩, .int .i64 0, .bool false] 44)
                    have hS := hS.below hbl
                    clear hbl
                    generalize W4.alloc _ = W5 at XW hS ⊢
                    generalize W4.heap.size = g9 at XW hx69 ⊢
                    have hS9 := hS.row' hx69.2 hx69.1 cZ
                    refine only_op 18 rfl (by kernel_rfl) (by rfl) (wp_store_row 44 (.tmp 9) (.tmp 62) rfl g9 cZ rfl rfl _ _ XW (by rw [info_rec, HZ6.out]) (by rw [HZ6.out]; rfl) HZ1.out ⟨hS9, ?_⟩)
                    (try simp only [put_none])
                    refine take_op 19 10 (.int .i64 0) rfl rfl (by kernel_rfl) (fun _ _ _ h => h) (by rfl) hS9 (fun w' hS' => ?hv58_) ?hh58_
                    case hv58_ => (go_simp; (try with_reducible rfl); (try omega))
                    simp only [Act.put, List.setIfInBounds_toArray, List.set_cons_zero, List.set_cons_succ]
                    refine take_op 20 11 (.int .i64 1) rfl rfl (by kernel_rfl) (fun _ _ _ h => h) (by rfl) hS9 (fun w' hS' => ?hv59_) ?hh59_
                    case hv59_ => (go_simp; (try with_reducible rfl); (try omega))
                    simp only [Act.put, List.setIfInBounds_toArray, List.set_cons_zero, List.set_cons_succ]
                    have hx9 := Lib.hid hS9
                    refine wpAnyH_done (by kernel_rfl) ?_ _
                    go_wp2_with fail
                    go_meet
                    exact ⟨rfl, hx9⟩
                  · simp only [Act.put, List.setIfInBounds_toArray, List.set_cons_zero, List.set_cons_succ]
                    have XW := RB.new W3 #[.int .i64 0, .int .i64 0, .string ⟨#[]⟩, .string ⟨#[]⟩, .int .i64 0, .bool false]
                    have hx69 : V3.heap.size ≤ W3.heap.size ∧ W3.heap.size ≠ g6 := ⟨hS.bel.size, by have := hS.lt; omega⟩
                    have hbl := (Below.refl W3.heap.size W3).alloc (Nat.le_refl _) (.cells #[.int .i64 0, .int .i64 0, .string ⟨#[]⟩, .string ⟨#[]⟩, .int .i64 0, .bool false] 44)
                    have hS := hS.below hbl
                    have MW := MW.on hbl
                    clear hbl
                    generalize W3.alloc _ = W4 at XW hS MW ⊢
                    generalize W3.heap.size = g9 at XW hx69 ⊢
                    refine only_op 12 rfl (by kernel_rfl) (by rfl) (wp_call 61 18 #[.agg #[.int .i64 b, .slice A rs.length c], .slice A4 (K + 1) c4, .int .i64 n] (.tuple #[.agg cZ, .int .i64 0, .int .i64 1]) (fun W => Below W4.heap.size W4 W) rfl (call3_enter rfl rfl rfl rfl cf_look) (HLK2.out A4 c4 W4 hS.bel MW) (fun W5 hb => ⟨hS.below hb, ?_⟩))
                    simp only [Act.put, List.setIfInBounds_toArray, List.set_cons_zero, List.set_cons_succ]
                    have hS := hS.below hb
                    have XW := XW.below hb
                    clear hb MW
                    refine take_op 13 48 ?v60_ rfl rfl (by kernel_rfl) (fun _ _ _ h => h) (by rfl) hS (fun w' hS' => ?hv60_) ?hh60_
                    case hv60_ => (go_simp; (try with_reducible rfl); (try omega))
                    simp only [Act.put, List.setIfInBounds_toArray, List.set_cons_zero, List.set_cons_succ]
                    refine take_op 14 62 (.agg cZ) rfl rfl (by kernel_rfl) (fun _ _ _ h => h) (by rfl) hS (fun w' hS' => ?hv61_) ?hh61_
                    case hv61_ => (go_simp; (try with_reducible rfl); (try omega))
                    simp only [Act.put, List.setIfInBounds_toArray, List.set_cons_zero, List.set_cons_succ]
                    refine take_op 15 63 (.int .i64 0) rfl rfl (by kernel_rfl) (fun _ _ _ h => h) (by rfl) hS (fun w' hS' => ?hv62_) ?hh62_
                    case hv62_ => (go_simp; (try with_reducible rfl); (try omega))
                    simp only [Act.put, List.setIfInBounds_toArray, List.set_cons_zero, List.set_cons_succ]
                    refine take_op 16 64 (.int .i64 1) rfl rfl (by kernel_rfl) (fun _ _ _ h => h) (by rfl) hS (fun w' hS' => ?hv63_) ?hh63_
                    case hv63_ => (go_simp; (try with_reducible rfl); (try omega))
                    simp only [Act.put, List.setIfInBounds_toArray, List.set_cons_zero, List.set_cons_succ]
                    have hS9 := hS.row' hx69.2 hx69.1 cZ
                    refine only_op 18 rfl (by kernel_rfl) (by rfl) (wp_store_row 44 (.tmp 9) (.tmp 62) rfl g9 cZ rfl rfl _ _ XW (by rw [info_rec, HZ6.out]) (by rw [HZ6.out]; rfl) HZ1.out ⟨hS9, ?_⟩)
                    (try simp only [put_none])
                    refine take_op 19 10 (.int .i64 0) rfl rfl (by kernel_rfl) (fun _ _ _ h => h) (by rfl) hS9 (fun w' hS' => ?hv64_) ?hh64_
                    case hv64_ => (go_simp; (try with_reducible rfl); (try omega))
                    simp only [Act.put, List.setIfInBounds_toArray, List.set_cons_zero, List.set_cons_succ]
                    refine take_op 20 11 (.int .i64 1) rfl rfl (by kernel_rfl) (fun _ _ _ h => h) (by rfl) hS9 (fun w' hS' => ?hv65_) ?hh65_
                    case hv65_ => (go_simp; (try with_reducible rfl); (try omega))
                    simp only [Act.put, List.setIfInBounds_toArray, List.set_cons_zero, List.set_cons_succ]
                    have hx9 := Lib.hid hS9
                    refine wpAnyH_done (by kernel_rfl) ?_ _
                    go_wp2_with fail
                    go_meet
                    exact ⟨rfl, hx9⟩
                · simp only [Act.put, List.setIfInBounds_toArray, List.set_cons_zero, List.set_cons_succ]
                  have XW := RB.new W2 #[.int .i64 0, .int .i64 0, .string ⟨#[]⟩, .string ⟨#[]⟩, .int .i64 0, .bool false]
                  have hx69 : V3.heap.size ≤ W2.heap.size ∧ W2.heap.size ≠ g6 := ⟨hS.bel.size, by have := hS.lt; omega⟩
                  have hbl := (Below.refl W2.heap.size W2).alloc (Nat.le_refl _) (.cells #[.int .i64 0, .int .i64 0, .string ⟨#[]⟩, .string ⟨#[]⟩, .int .i64 0, .bool false] 44)
                  have hS := hS.below hbl
                  have OW := own_below OW hbl
                  have GW := GW.below hbl
                  clear hbl
                  generalize W2.alloc _ = W3 at XW hS OW GW ⊢
                  generalize W2.heap.size = g9 at XW hx69 ⊢
                  refine only_op 6 rfl (by kernel_rfl) (by rfl) (wp_append_mark 55 W3 (.tmp 52) (.tmp 54) rfl rfl i0 hi hz0 hz1 hz2 V3.heap.size _ _ _ rfl OW g5 (-1) 0 rfl GW (by omega) hS.bel.size (fun v' W4 hown' hgrow => ⟨hS.grown OW (Nat.le_refl _) hgrow, ?_⟩))
                  simp only [Act.put, List.setIfInBounds_toArray, List.set_cons_zero, List.set_cons_succ]
                  have hS := hS.grown OW (Nat.le_refl _) hgrow
                  have XW := XW.grown OW hgrow
                  have hO2 : W4.ownsRow V3.heap.size 42 2 v' (K + 1) (mflat ((marks rs) ++ [⟨-1, 0⟩])) := by rw [mflat_snoc]; exact hown'
                  obtain ⟨A4, c4, rfl⟩ := row_slice hO2
                  have MW := MarksAt.of_ownN HL1.out hO2
                  clear hown' hgrow OW GW hO2
                  refine only_op 12 rfl (by kernel_rfl) (by rfl) (wp_call 61 18 #[.agg #[.int .i64 b, .slice A rs.length c], .slice A4 (K + 1) c4, .int .i64 n] (.tuple #[.agg cZ, .int .i64 0, .int .i64 1]) (fun W => Below W4.heap.size W4 W) rfl (call3_enter rfl rfl rfl rfl cf_look) (HLK2.out A4 c4 W4 hS.bel MW) (fun W5 hb => ⟨hS.below hb, ?_⟩))
                  simp only [Act.put, List.setIfInBounds_toArray, List.set_cons_zero, List.set_cons_succ]
                  have hS := hS.below hb
                  have XW := XW.below hb
                  clear hb MW
                  refine take_op 13 48 ?v66_ rfl rfl (by kernel_rfl) (fun _ _ _ h => h) (by rfl) hS (fun w' hS' => ?hv66_) ?hh66_
                  case hv66_ => (go_simp; (try with_reducible rfl); (try omega))
                  simp only [Act.put, List.setIfInBounds_toArray, List.set_cons_zero, List.set_cons_succ]
                  refine take_op 14 62 (.agg cZ) rfl rfl (by kernel_rfl) (fun _ _ _ h => h) (by rfl) hS (fun w' hS' => ?hv67_) ?hh67_
                  case hv67_ => (go_simp; (try with_reducible rfl); (try omega))
                  simp only [Act.put, List.setIfInBounds_toArray, List.set_cons_zero, List.set_cons_succ]
                  refine take_op 15 63 (.int .i64 0) rfl rfl (by kernel_rfl) (fun _ _ _ h => h) (by rfl) hS (fun w' hS' => ?hv68_) ?hh68_
                  case hv68_ => (go_simp; (try with_reducible rfl); (try omega))
                  simp only [Act.put, List.setIfInBounds_toArray, List.set_cons_zero, List.set_cons_succ]
                  refine take_op 16 64 (.int .i64 1) rfl rfl (by kernel_rfl) (fun _ _ _ h => h) (by rfl) hS (fun w' hS' => ?hv69_) ?hh69_
                  case hv69_ => (go_simp; (try with_reducible rfl); (try omega))
                  simp only [Act.put, List.setIfInBounds_toArray, List.set_cons_zero, List.set_cons_succ]
                  have hS9 := hS.row' hx69.2 hx69.1 cZ
                  refine only_op 18 rfl (by kernel_rfl) (by rfl) (wp_store_row 44 (.tmp 9) (.tmp 62) rfl g9 cZ rfl rfl _ _ XW (by rw [info_rec, HZ6.out]) (by rw [HZ6.out]; rfl) HZ1.out ⟨hS9, ?_⟩)
                  (try simp only [put_none])
                  refine take_op 19 10 (.int .i64 0) rfl rfl (by kernel_rfl) (fun _ _ _ h => h) (by rfl) hS9 (fun w' hS' => ?hv70_) ?hh70_
                  case hv70_ => (go_simp; (try with_reducible rfl); (try omega))
                  simp only [Act.put, List.setIfInBounds_toArray, List.set_cons_zero, List.set_cons_succ]
                  refine take_op 20 11 (.int .i64 1) rfl rfl (by kernel_rfl) (fun _ _ _ h => h) (by rfl) hS9 (fun w' hS' => ?hv71_) ?hh71_
                  case hv71_ => (go_simp; (try with_reducible rfl); (try omega))
                  simp only [Act.put, List.setIfInBounds_toArray, List.set_cons_zero, List.set_cons_succ]
                  have hx9 := Lib.hid hS9
                  refine wpAnyH_done (by kernel_rfl) ?_ _
                  go_wp2_with fail
                  go_meet
                  exact ⟨rfl, hx9⟩
              · simp only [Act.put, List.setIfInBounds_toArray, List.set_cons_zero, List.set_cons_succ]
                have XW := RB.new W1 #[.int .i64 0, .int .i64 0, .string ⟨#[]⟩, .string ⟨#[]⟩, .int .i64 0, .bool false]
                have hx69 : V3.heap.size ≤ W1.heap.size ∧ W1.heap.size ≠ g6 := ⟨hS.bel.size, by have := hS.lt; omega⟩
                have hbl := (Below.refl W1.heap.size W1).alloc (Nat.le_refl _) (.cells #[.int .i64 0, .int .i64 0, .string ⟨#[]⟩, .string ⟨#[]⟩, .int .i64 0, .bool false] 44)
                have hS := hS.below hbl
                have GW := GW.below hbl
                clear hbl
                generalize W1.alloc _ = W2 at XW hS GW ⊢
                generalize W1.heap.size = g9 at XW hx69 ⊢
                refine only_op 3 rfl (by kernel_rfl) (by rfl) (wp_call_ex 52 14 #[.slice A2 K c2] _ rfl (call1_enter rfl rfl cf_copy) (HCM.out W2 hS.bel) ?_)
                rintro e W3 ⟨A3, c3, rfl, hO0, hb⟩
                refine ⟨_, rfl, hS.below hb, ?_⟩
                simp only [Act.put, List.setIfInBounds_toArray, List.set_cons_zero, List.set_cons_succ]
                have OW := own_mono hO0 hS.bel.size
                have hS := hS.below hb
                have GW := GW.below hb
                have XW := XW.below hb
                clear hb hO0
                refine only_op 6 rfl (by kernel_rfl) (by rfl) (wp_append_mark 55 W3 (.tmp 52) (.tmp 54) rfl rfl i0 hi hz0 hz1 hz2 V3.heap.size _ _ _ rfl OW g5 (-1) 0 rfl GW (by omega) hS.bel.size (fun v' W4 hown' hgrow => ⟨hS.grown OW (Nat.le_refl _) hgrow, ?_⟩))
                simp only [Act.put, List.setIfInBounds_toArray, List.set_cons_zero, List.set_cons_succ]
                have hS := hS.grown OW (Nat.le_refl _) hgrow
                have XW := XW.grown OW hgrow
                have hO2 : W4.ownsRow V3.heap.size 42 2 v' (K + 1) (mflat ((marks rs) ++ [⟨-1, 0⟩])) := by rw [mflat_snoc]; exact hown'
                obtain ⟨A4, c4, rfl⟩ := row_slice hO2
                have MW := MarksAt.of_ownN HL1.out hO2
                clear hown' hgrow OW GW hO2
                refine only_op 12 rfl (by kernel_rfl) (by rfl) (wp_call 61 18 #[.agg #[.int .i64 b, .slice A rs.length c], .slice A4 (K + 1) c4, .int .i64 n] (.tuple #[.agg cZ, .int .i64 0, .int .i64 1]) (fun W => Below W4.heap.size W4 W) rfl (call3_enter rfl rfl rfl rfl cf_look) (HLK2.out A4 c4 W4 hS.bel MW) (fun W5 hb => ⟨hS.below hb, ?_⟩))
                simp only [Act.put, List.setIfInBounds_toArray, List.set_cons_zero, List.set_cons_succ]
                have hS := hS.below hb
                have XW := XW.below hb
                clear hb MW
                refine take_op 13 48 ?v72_ rfl rfl (by kernel_rfl) (fun _ _ _ h => h) (by rfl) hS (fun w' hS' => ?hv72_) ?hh72_
                case hv72_ => (go_simp; (try with_reducible rfl); (try omega))
                simp only [Act.put, List.setIfInBounds_toArray, List.set_cons_zero, List.set_cons_succ]
                refine take_op 14 62 (.agg cZ) rfl rfl (by kernel_rfl) (fun _ _ _ h => h) (by rfl) hS (fun w' hS' => ?hv73_) ?hh73_
                case hv73_ => (go_simp; (try with_reducible rfl); (try omega))
                simp only [Act.put, List.setIfInBounds_toArray, List.set_cons_zero, List.set_cons_succ]
                refine take_op 15 63 (.int .i64 0) rfl rfl (by kernel_rfl) (fun _ _ _ h => h) (by rfl) hS (fun w' hS' => ?hv74_) ?hh74_
                case hv74_ => (go_simp; (try with_reducible rfl); (try omega))
                simp only [Act.put, List.setIfInBounds_toArray, List.set_cons_zero, List.set_cons_succ]
                refine take_op 16 64 (.int .i64 1) rfl rfl (by kernel_rfl) (fun _ _ _ h => h) (by rfl) hS (fun w' hS' => ?hv75_) ?hh75_
                case hv75_ => (go_simp; (try with_reducible rfl); (try omega))
                simp only [Act.put, List.setIfInBounds_toArray, List.set_cons_zero, List.set_cons_succ]
                have hS9 := hS.row' hx69.2 hx69.1 cZ
                refine only_op 18 rfl (by kernel_rfl) (by rfl) (wp_store_row 44 (.tmp 9) (.tmp 62) rfl g9 cZ rfl rfl _ _ XW (by rw [info_rec, HZ6.out]) (by rw [HZ6.out]; rfl) HZ1.out ⟨hS9, ?_⟩)
                (try simp only [put_none])
                refine take_op 19 10 (.int .i64 0) rfl rfl (by kernel_rfl) (fun _ _ _ h => h) (by rfl) hS9 (fun w' hS' => ?hv76_) ?hh76_
                case hv76_ => (go_simp; (try with_reducible rfl); (try omega))
                simp only [Act.put, List.setIfInBounds_toArray, List.set_cons_zero, List.set_cons_succ]
                refine take_op 20 11 (.int .i64 1) rfl rfl (by kernel_rfl) (fun _ _ _ h => h) (by rfl) hS9 (fun w' hS' => ?hv77_) ?hh77_
                case hv77_ => (go_simp; (try with_reducible rfl); (try omega))
                simp only [Act.put, List.setIfInBounds_toArray, List.set_cons_zero, List.set_cons_succ]
                have hx9 := Lib.hid hS9
                refine wpAnyH_done (by kernel_rfl) ?_ _
                go_wp2_with fail
                go_meet
                exact ⟨rfl, hx9⟩
            · simp only [Act.put, List.setIfInBounds_toArray, List.set_cons_zero, List.set_cons_succ]
              have XW := RB.new W0 #[.int .i64 0, .int .i64 0, .string ⟨#[]⟩, .string ⟨#[]⟩, .int .i64 0, .bool false]
              have hx69 : V3.heap.size ≤ W0.heap.size ∧ W0.heap.size ≠ g6 := ⟨hS.bel.size, by have := hS.lt; omega⟩
              have hbl := (Below.refl W0.heap.size W0).alloc (Nat.le_refl _) (.cells #[.int .i64 0, .int .i64 0, .string ⟨#[]⟩, .string ⟨#[]⟩, .int .i64 0, .bool false] 44)
              have hS := hS.below hbl
              clear hbl
              generalize W0.alloc _ = W1 at XW hS ⊢
              generalize W0.heap.size = g9 at XW hx69 ⊢
              refine two_ops 3 5 rfl rfl (by kernel_rfl) (by rfl) (by rfl) (wp_call_ex 52 14 #[.slice A2 K c2] _ rfl (call1_enter rfl rfl cf_copy) (HCM.out W1 hS.bel) ?_) (wp_made 54 (.slice (some ⟨W1.heap.size, 0, none⟩) 1 1) rfl (w' := W1.alloc (.cells #[.int .i64 (-1), .int .i64 0] 42)) (by go_simp; try rfl) ⟨hS.below ((Below.refl _ _).alloc (Nat.le_refl _) _), ?_⟩)
              · rintro e W2 ⟨A3, c3, rfl, hO0, hb⟩
                refine ⟨_, rfl, hS.below hb, ?_⟩
                simp only [Act.put, List.setIfInBounds_toArray, List.set_cons_zero, List.set_cons_succ]
                have OW := own_mono hO0 hS.bel.size
                have hS := hS.below hb
                have XW := XW.below hb
                clear hb hO0
                refine only_op 5 rfl (by kernel_rfl) (by rfl) (wp_made 54 (.slice (some ⟨W2.heap.size, 0, none⟩) 1 1) rfl (w' := W2.alloc (.cells #[.int .i64 (-1), .int .i64 0] 42)) (by go_simp; try rfl) ⟨hS.below ((Below.refl _ _).alloc (Nat.le_refl _) _), ?_⟩)
                simp only [Act.put, List.setIfInBounds_toArray, List.set_cons_zero, List.set_cons_succ]
                have GW := Blk.new W2 42 #[.int .i64 (-1), .int .i64 0]
                have hbl := (Below.refl W2.heap.size W2).alloc (Nat.le_refl _) (.cells #[.int .i64 (-1), .int .i64 0] 42)
                have hS := hS.below hbl
                have OW := own_below OW hbl
                have XW := XW.below hbl
                clear hbl
                generalize W2.alloc _ = W3 at GW hS OW XW ⊢
                generalize W2.heap.size = g5 at GW ⊢
                refine only_op 6 rfl (by kernel_rfl) (by rfl) (wp_append_mark 55 W3 (.tmp 52) (.tmp 54) rfl rfl i0 hi hz0 hz1 hz2 V3.heap.size _ _ _ rfl OW g5 (-1) 0 rfl GW (by omega) hS.bel.size (fun v' W4 hown' hgrow => ⟨hS.grown OW (Nat.le_refl _) hgrow, ?_⟩))
                simp only [Act.put, List.setIfInBounds_toArray, List.set_cons_zero, List.set_cons_succ]
                have hS := hS.grown OW (Nat.le_refl _) hgrow
                have XW := XW.grown OW hgrow
                have hO2 : W4.ownsRow V3.heap.size 42 2 v' (K + 1) (mflat ((marks rs) ++ [⟨-1, 0⟩])) := by rw [mflat_snoc]; exact hown'
                obtain ⟨A4, c4, rfl⟩ := row_slice hO2
                have MW := MarksAt.of_ownN HL1.out hO2
                clear hown' hgrow OW GW hO2
                refine only_op 12 rfl (by kernel_rfl) (by rfl) (wp_call 61 18 #[.agg #[.int .i64 b, .slice A rs.length c], .slice A4 (K + 1) c4, .int .i64 n] (.tuple #[.agg cZ, .int .i64 0, .int .i64 1]) (fun W => Below W4.heap.size W4 W) rfl (call3_enter rfl rfl rfl rfl cf_look) (HLK2.out A4 c4 W4 hS.bel MW) (fun W5 hb => ⟨hS.below hb, ?_⟩))
                simp only [Act.put, List.setIfInBounds_toArray, List.set_cons_zero, List.set_cons_succ]
                have hS := hS.below hb
                have XW := XW.below hb
                clear hb MW
                refine take_op 13 48 ?v78_ rfl rfl (by kernel_rfl) (fun _ _ _ h => h) (by rfl) hS (fun w' hS' => ?hv78_) ?hh78_
                case hv78_ => (go_simp; (try with_reducible rfl); (try omega))
                simp only [Act.put, List.setIfInBounds_toArray, List.set_cons_zero, List.set_cons_succ]
                refine take_op 14 62 (.agg cZ) rfl rfl (by kernel_rfl) (fun _ _ _ h => h) (by rfl) hS (fun w' hS' => ?hv79_) ?hh79_
                case hv79_ => (go_simp; (try with_reducible rfl); (try omega))
                simp only [Act.put, List.setIfInBounds_toArray, List.set_cons_zero, List.set_cons_succ]
                refine take_op 15 63 (.int .i64 0) rfl rfl (by kernel_rfl) (fun _ _ _ h => h) (by rfl) hS (fun w' hS' => ?hv80_) ?hh80_
                case hv80_ => (go_simp; (try with_reducible rfl); (try omega))
                simp only [Act.put, List.setIfInBounds_toArray, List.set_cons_zero, List.set_cons_succ]
                refine take_op 16 64 (.int .i64 1) rfl rfl (by kernel_rfl) (fun _ _ _ h => h) (by rfl) hS (fun w' hS' => ?hv81_) ?hh81_
                case hv81_ => (go_simp; (try with_reducible rfl); (try omega))
                simp only [Act.put, List.setIfInBounds_toArray, List.set_cons_zero, List.set_cons_succ]
                have hS9 := hS.row' hx69.2 hx69.1 cZ
                refine only_op 18 rfl (by kernel_rfl) (by rfl) (wp_store_row 44 (.tmp 9) (.tmp 62) rfl g9 cZ rfl rfl _ _ XW (by rw [info_rec, HZ6.out]) (by rw [HZ6.out]; rfl) HZ1.out ⟨hS9, ?_⟩)
                (try simp only [put_none])
                refine take_op 19 10 (.int .i64 0) rfl rfl (by kernel_rfl) (fun _ _ _ h => h) (by rfl) hS9 (fun w' hS' => ?hv82_) ?hh82_
                case hv82_ => (go_simp; (try with_reducible rfl); (try omega))
                simp only [Act.put, List.setIfInBounds_toArray, List.set_cons_zero, List.set_cons_succ]
                refine take_op 20 11 (.int .i64 1) rfl rfl (by kernel_rfl) (fun _ _ _ h => h) (by rfl) hS9 (fun w' hS' => ?hv83_) ?hh83_
                case hv83_ => (go_simp; (try with_reducible rfl); (try omega))
                simp only [Act.put, List.setIfInBounds_toArray, List.set_cons_zero, List.set_cons_succ]
                have hx9 := Lib.hid hS9
                refine wpAnyH_done (by kernel_rfl) ?_ _
                go_wp2_with fail
                go_meet
                exact ⟨rfl, hx9⟩
              · simp only [Act.put, List.setIfInBounds_toArray, List.set_cons_zero, List.set_cons_succ]
                have GW := Blk.new W1 42 #[.int .i64 (-1), .int .i64 0]
                have hbl := (Below.refl W1.heap.size W1).alloc (Nat.le_refl _) (.cells #[.int .i64 (-1), .int .i64 0] 42)
                have hS := hS.below hbl
                have XW := XW.below hbl
                clear hbl
                generalize W1.alloc _ = W2 at GW hS XW ⊢
                generalize W1.heap.size = g5 at GW ⊢
                refine only_op 3 rfl (by kernel_rfl) (by rfl) (wp_call_ex 52 14 #[.slice A2 K c2] _ rfl (call1_enter rfl rfl cf_copy) (HCM.out W2 hS.bel) ?_)
                rintro e W3 ⟨A3, c3, rfl, hO0, hb⟩
                refine ⟨_, rfl, hS.below hb, ?_⟩
                simp only [Act.put, List.setIfInBounds_toArray, List.set_cons_zero, List.set_cons_succ]
                have OW := own_mono hO0 hS.bel.size
                have hS := hS.below hb
                have GW := GW.below hb
                have XW := XW.below hb
                clear hb hO0
                refine only_op 6 rfl (by kernel_rfl) (by rfl) (wp_append_mark 55 W3 (.tmp 52) (.tmp 54) rfl rfl i0 hi hz0 hz1 hz2 V3.heap.size _ _ _ rfl OW g5 (-1) 0 rfl GW (by omega) hS.bel.size (fun v' W4 hown' hgrow => ⟨hS.grown OW (Nat.le_refl _) hgrow, ?_⟩))
                simp only [Act.put, List.setIfInBounds_toArray, List.set_cons_zero, List.set_cons_succ]
                have hS := hS.grown OW (Nat.le_refl _) hgrow
                have XW := XW.grown OW hgrow
                have hO2 : W4.ownsRow V3.heap.size 42 2 v' (K + 1) (mflat ((marks rs) ++ [⟨-1, 0⟩])) := by rw [mflat_snoc]; exact hown'
                obtain ⟨A4, c4, rfl⟩ := row_slice hO2
                have MW := MarksAt.of_ownN HL1.out hO2
                clear hown' hgrow OW GW hO2
                refine only_op 12 rfl (by kernel_rfl) (by rfl) (wp_call 61 18 #[.agg #[.int .i64 b, .slice A rs.length c], .slice A4 (K + 1) c4, .int .i64 n] (.tuple #[.agg cZ, .int .i64 0, .int .i64 1]) (fun W => Below W4.heap.size W4 W) rfl (call3_enter rfl rfl rfl rfl cf_look) (HLK2.out A4 c4 W4 hS.bel MW) (fun W5 hb => ⟨hS.below hb, ?_⟩))
                simp only [Act.put, List.setIfInBounds_toArray, List.set_cons_zero, List.set_cons_succ]
                have hS := hS.below hb
                have XW := XW.below hb
                clear hb MW
                refine take_op 13 48 ?v84_ rfl rfl (by kernel_rfl) (fun _ _ _ h => h) (by rfl) hS (fun w' hS' => ?hv84_) ?hh84_
                case hv84_ => (go_simp; (try with_reducible rfl); (try omega))
                simp only [Act.put, List.setIfInBounds_toArray, List.set_cons_zero, List.set_cons_succ]
                refine take_op 14 62 (.agg cZ) rfl rfl (by kernel_rfl) (fun _ _ _ h => h) (by rfl) hS (fun w' hS' => ?hv85_) ?hh85_
                case hv85_ => (go_simp; (try with_reducible rfl); (try omega))
                simp only [Act.put, List.setIfInBounds_toArray, List.set_cons_zero, List.set_cons_succ]
                refine take_op 15 63 (.int .i64 0) rfl rfl (by kernel_rfl) (fun _ _ _ h => h) (by rfl) hS (fun w' hS' => ?hv86_) ?hh86_
                case hv86_ => (go_simp; (try with_reducible rfl); (try omega))
                simp only [Act.put, List.setIfInBounds_toArray, List.set_cons_zero, List.set_cons_succ]
                refine take_op 16 64 (.int .i64 1) rfl rfl (by kernel_rfl) (fun _ _ _ h => h) (by rfl) hS (fun w' hS' => ?hv87_) ?hh87_
                case hv87_ => (go_simp; (try with_reducible rfl); (try omega))
                simp only [Act.put, List.setIfInBounds_toArray, List.set_cons_zero, List.set_cons_succ]
                have hS9 := hS.row' hx69.2 hx69.1 cZ
                refine only_op 18 rfl (by kernel_rfl) (by rfl) (wp_store_row 44 (.tmp 9) (.tmp 62) rfl g9 cZ rfl rfl _ _ XW (by rw [info_rec, HZ6.out]) (by rw [HZ6.out]; rfl) HZ1.out ⟨hS9, ?_⟩)
                (try simp only [put_none])
                refine take_op 19 10 (.int .i64 0) rfl rfl (by kernel_rfl) (fun _ _ _ h => h) (by rfl) hS9 (fun w' hS' => ?hv88_) ?hh88_
                case hv88_ => (go_simp; (try with_reducible rfl); (try omega))
                simp only [Act.put, List.setIfInBounds_toArray, List.set_cons_zero, List.set_cons_succ]
                refine take_op 20 11 (.int .i64 1) rfl rfl (by kernel_rfl) (fun _ _ _ h => h) (by rfl) hS9 (fun w' hS' => ?hv89_) ?hh89_
                case hv89_ => (go_simp; (try with_reducible rfl); (try omega))
                simp only [Act.put, List.setIfInBounds_toArray, List.set_cons_zero, List.set_cons_succ]
                have hx9 := Lib.hid hS9
                refine wpAnyH_done (by kernel_rfl) ?_ _
                go_wp2_with fail
                go_meet
                exact ⟨rfl, hx9⟩
          case rest =>
            obtain ⟨rfl, T11⟩ := hcut
            clear T10 HCM HLC HLK2
            rcases HO.out with ⟨hf, hQ, rfl, rfl⟩ | ⟨hf, m, hQ, hP, rfl, hfz, h4, h5⟩
            · have HRF2 := Lib.hid (fun W (hb : Below V3.heap.size V3 W) => show Calls Try.prog 19 #[.slice A rs.length c, .int .i64 n] W (fun e w' => e = .returned (.int .i64 (-1)) ∧ W = w') from by
                have := HRF1.out W hb
                rw [show atOf f rs.length = -1 from if_neg (by omega)] at this
                exact this)
              clear HRF1 HO hf hQ HCR HRNE HR6 HR1
              go_upto_region 17 with (go_at_call 10; refine (num_is _ _).mono ?_; rintro e w' ⟨rfl, rfl⟩)
              have st0 := T11.out
              haveI : Nonempty (In (Two V3 g6 cR)) := ⟨⟨_, st0⟩⟩
              have k1 := fun u : In (Two V3 g6 cR) => (RV.out.below (Below.step HBV.out u.h.bel)).cell 1
              have k3 := fun u : In (Two V3 g6 cR) => HD33.out u.w u.h.bel
              have kn := fun u : In (Two V3 g6 cR) => HN3.out u.w u.h.bel
              have kc := fun u : In (Two V3 g6 cR) => HRF2.out u.w u.h.bel
              clear HRF2
              refine region_in (S := Two V3 g6 cR) (by kernel_rfl) (by kernel_rfl) (st0.drewN 1) ?_
              repeat (go_big_quiet_step (first | (go_at_call 19; exact in_call ((kc _).mono fun _ _ h => ⟨h.1, by rw [← h.2]; exact In.h _⟩))))
              refine wpQuiet_nil ?_
              rintro _ ⟨⟨w7, st7⟩, rfl⟩
              have T12 := Lib.hid st7
              clear this st0 st7 k1 k3 kn kc T11
              go_wp2_with (go_at_call 10; refine (num_is _ _).mono ?_; rintro e w' ⟨rfl, rfl⟩)
              go_roundw
              case rel => exact ⟨k + 1, h2, h1, by go_num, Below.step HBV.out T12.out.bel⟩
              case measure => simp [RowKit.intOf]; omega
            · have HRF2 := Lib.hid (fun W (hb : Below V3.heap.size V3 W) => show Calls Try.prog 19 #[.slice A rs.length c, .int .i64 n] W (fun e w' => e = .returned (.int .i64 (f : Int)) ∧ W = w') from by
                have := HRF1.out W hb
                rw [show atOf f rs.length = (f : Int) from if_pos hf] at this
                exact this)
              have HFR1 := Lib.hid (fun W (hb : Below V3.heap.size V3 W) => HFR.out n (m : Int) A2 c2 W (HMV3.out W hb) hfz)
              obtain ⟨b0, o0, rfl, hb0, hc⟩ := HA.out.some_ (by omega)
              have HLD := Lib.hid (fun W (hb : Below V3.heap.size V3 W) => show (loadVar 44 ⟨b0, o0 + f * 6, none⟩).run Try.prog W = .ok (.agg cR) W from by
                rw [← HCR.out, hQ]
                exact load_at ((hc f hf).keep fun i => (HWB.out W hb).cell (p := ⟨b0, i, none⟩) hb0))
              have HP1 : Hid (∀ W, Below V3.heap.size V3 W → W.cell? ⟨p, 1, none⟩ = some (.slice (some ⟨b0, o0, none⟩) rs.length c)) := fun W hb => (RV.out.below (Below.step HBV.out hb)).cell 1
              have hfI : (f : Int) < (rs.length : Int) := by omega
              have hle := HLE.out
              have hPI : P = (f : Int) - (m : Int) * 4 := by omega
              have hP0 : 0 ≤ P := by omega
              have hP4 : P ≤ 4 := by omega
              have HPB := Lib.hid (And.intro hPI (And.intro hP0 hP4))
              have hmle : (m : Int) * 4 ≤ 200 := by omega
              clear HRF1 HO hQ hP hfz hc h4 h5 hf hPI hP0 hP4
              go_upto_region 17 with (go_at_call 10; refine (num_is _ _).mono ?_; rintro e w' ⟨rfl, rfl⟩)
              have st0 := T11.out
              haveI : Nonempty (In (Two V3 g6 cR)) := ⟨⟨_, st0⟩⟩
              have k1 := fun u : In (Two V3 g6 cR) => (RV.out.below (Below.step HBV.out u.h.bel)).cell 1
              have k3 := fun u : In (Two V3 g6 cR) => HD33.out u.w u.h.bel
              have kn := fun u : In (Two V3 g6 cR) => HN3.out u.w u.h.bel
              have kc := fun u : In (Two V3 g6 cR) => HRF2.out u.w u.h.bel
              clear HRF2
              refine region_in (S := Two V3 g6 cR) (by kernel_rfl) (by kernel_rfl) (st0.drewN 1) ?_
              repeat (go_big_quiet_step (first | (go_at_call 19; exact in_call ((kc _).mono fun _ _ h => ⟨h.1, by rw [← h.2]; exact In.h _⟩))))
              refine wpQuiet_nil ?_
              rintro _ ⟨⟨w7, st7⟩, rfl⟩
              have T12 := Lib.hid st7
              clear this st0 st7 k1 k3 kn kc T11
              have d3 := HD33.out _ T12.out.bel
              have dn := HN3.out _ T12.out.bel
              go_upto_region 23 with (go_at_call 17; refine (HFR1.out _ T12.out.bel).mono ?_; rintro e w8 ⟨rfl, hb8⟩)
              have T13 := Lib.hid (T12.out.below hb8)
              clear d3 dn T12 hb8 HFR1
              obtain ⟨hPI, hP0, hP4⟩ := HPB.out
              clear HPB
              rcases Nat.eq_zero_or_pos m with rfl | hm
              · obtain rfl : P = (f : Int) := by omega
                have g1 : decide ((f : Int) < 0) = false := decide_eq_false (by omega)
                have g2 : decide (4 < (f : Int)) = false := decide_eq_false (by omega)
                have g3 : decide (4 < f) = false := decide_eq_false (by omega)
                clear hPI
                go_upto_region 25 with fail
                have st0 := T13.out
                haveI : Nonempty (In (Two V3 g6 cR)) := ⟨⟨_, st0⟩⟩
                have kl6 := fun u : In (Two V3 g6 cR) => load_blk u.h.out.1.blk HR6.out
                have k1 := fun u : In (Two V3 g6 cR) => HP1.out u.w u.h.bel
                have klr := fun u : In (Two V3 g6 cR) => HLD.out u.w u.h.bel
                have hne := HRNE.out
                refine region_in (S := Two V3 g6 cR) (by kernel_rfl) (by kernel_rfl) (st0.drewN 1) ?_
                iterate 4 (go_big_quiet_step (first | (go_at_call 10; exact in_call ((num_is _ _).mono fun _ _ h => ⟨h.1, by rw [← h.2]; exact In.h _⟩))))
                go_big_quiet_want
                refine quiet_load_in 44 (.tmp 6) rfl g6 0 rfl _ kl6 ?_
                go_simp
                go_big_quiet_on
                iterate 5 (go_big_quiet_step (fail))
                go_big_quiet_want
                refine quiet_load_in 44 (.tmp 115) rfl b0 (o0 + f * 6) rfl _ klr ?_
                go_simp
                go_big_quiet_on
                repeat (go_big_quiet_step (fail))
                refine wpQuiet_nil ?_
                rintro _ ⟨⟨w7, st7⟩, rfl⟩
                have T14 := Lib.hid st7
                clear this st0 st7 kl6 k1 klr hne T13
                go_wp2_with fail
                go_roundw
                case rel => exact ⟨k + 1, h2, h1, by go_num, Below.step HBV.out T14.out.bel⟩
                case measure => simp [RowKit.intOf]; omega
              · have hmI : 0 < (m : Int) := by omega
                subst hPI
                have g1 : decide ((f : Int) - (m : Int) * 4 < 0) = false := decide_eq_false (by omega)
                have g2 : decide (4 < (f : Int) - (m : Int) * 4) = false := decide_eq_false (by omega)
                go_upto_region 25 with fail
                have st0 := T13.out
                haveI : Nonempty (In (Two V3 g6 cR)) := ⟨⟨_, st0⟩⟩
                have kl6 := fun u : In (Two V3 g6 cR) => load_blk u.h.out.1.blk HR6.out
                have k1 := fun u : In (Two V3 g6 cR) => HP1.out u.w u.h.bel
                have klr := fun u : In (Two V3 g6 cR) => HLD.out u.w u.h.bel
                have hne := HRNE.out
                refine region_in (S := Two V3 g6 cR) (by kernel_rfl) (by kernel_rfl) (st0.drewN 1) ?_
                iterate 4 (go_big_quiet_step (first | (go_at_call 10; exact in_call ((num_is _ _).mono fun _ _ h => ⟨h.1, by rw [← h.2]; exact In.h _⟩))))
                go_big_quiet_want
                refine quiet_load_in 44 (.tmp 6) rfl g6 0 rfl _ kl6 ?_
                go_simp
                go_big_quiet_on
                iterate 5 (go_big_quiet_step (fail))
                go_big_quiet_want
                refine quiet_load_in 44 (.tmp 115) rfl b0 (o0 + f * 6) rfl _ klr ?_
                go_simp
                go_big_quiet_on
                repeat (go_big_quiet_step (fail))
                refine wpQuiet_nil ?_
                rintro _ ⟨⟨w7, st7⟩, rfl⟩
                have T14 := Lib.hid st7
                clear this st0 st7 kl6 k1 klr hne T13
                go_wp2_with fail
                go_roundw
                case rel => exact ⟨k + 1, h2, h1, by go_num, Below.step HBV.out T14.out.bel⟩
                case measure => simp [RowKit.intOf]; omega
      · by_cases h1 : k < ns.length
        · have h2 : ¬ k < 20 := fun h => hgo ⟨h1, h⟩
          clear hgo
          go_wp2_with (first | (go_at_call 20; refine (HWI.out _).mono ?_; rintro e w' ⟨rfl, rfl⟩) | (go_at_call 11; refine (HWK.out _).mono ?_; rintro e w9 ⟨rfl, hb9⟩))
          go_ret
          exact ⟨rfl, Below.step (Below.step RV.out.out.2 HBV.out) hb9⟩
        · clear hgo
          go_wp2_with (first | (go_at_call 20; refine (HWI.out _).mono ?_; rintro e w' ⟨rfl, rfl⟩) | (go_at_call 11; refine (HWK.out _).mono ?_; rintro e w9 ⟨rfl, hb9⟩))
          go_ret
          exact ⟨rfl, Below.step (Below.step RV.out.out.2 HBV.out) hb9⟩
end Go.Proofs.Ytijpieaanlnibaa.Mkd
/- What the form's reach says of an argument's parts: how long its slices and texts are; a slice's value; a list of numbers. -/
namespace Go.Proofs.Ytijpieaanlnibaa
open Go.ChangeShapes Go.WideShapes Go.ChangeAt Go.RowKit

theorem cell_in {w : World} {a : Addr} {v : Value} (h : w.cell? a = some v) : a.block < w.heap.size := by
  rcases Nat.lt_or_ge a.block w.heap.size with hlt | hge
  · exact hlt
  · unfold World.cell? at h
    rw [Array.getElem?_eq_none hge] at h
    cases h
section
variable {H : Type} {enc : TypeId × Value → H} {W : World} {base : Nat} {spare : Nat → Bool} {held : Bool}
/-- All that is read is within the form's reach. -/
def Near (t : TypeId) (d : DataW H) : Prop := ∀ n ∈ d.weights Try.prog t, n ≤ reachBytes
theorem near_field {t e : TypeId} {fs : Array Field} {ys : List (DataW H × List MemPlace)} {j : Nat} {f : Field} {y : DataW H × List MemPlace} (hu : Try.prog.underlying t = some (.struct fs)) (h : Near t (.agg (ys.map (·.1)))) (hf : fs[j]? = some f) (he : f.type = e) (hy : ys[j]? = some y) : Near e y.1 := by
  subst he
  intro n hn
  refine h n ?_
  rw [DataW.weights, hu]
  refine DataW.weights_mem_each (j := j) ?_ ?_ n hn
  · rw [List.getElem?_map, Array.getElem?_toList, hf]; rfl
  · rw [List.getElem?_map, hy]; rfl
theorem near_string {t : TypeId} {s : ByteArray} (h : Near t (DataW.lit (H := H) (.string s.data.toList))) : s.data.toList.length ≤ 140737488351232 :=
  h s.data.toList.length (by rw [DataW.weights]; exact List.mem_singleton.2 rfl)
theorem near_len {t e : TypeId} {fuel : Nat} {A : Option Addr} {n c k : Nat} {y : DataW H × List MemPlace} (hu : Try.prog.underlying t = some (.slice e)) (hk : Try.prog.bytesOf e = k) (hw : Near t y.1) (h : DataW.trod enc Try.prog W base spare held fuel t [.slice A n c] = some y) : n * k ≤ 140737488351232 ∧ n ≤ c := by
  rcases Go.Deep.open_slice hu h with ⟨hcs, _⟩ | ⟨a, len, cap, m, k', D, Pl, hcs, _, hlc, _, _, hx, _⟩
  · simp at hcs
    rw [hcs.2.1]
    omega
  · simp at hcs
    obtain ⟨_, rfl, rfl⟩ := hcs
    rw [hx] at hw
    have h1 := hw _ (by rw [DataW.weights, hu]; exact List.mem_cons_self)
    rw [List.length_map, List.length_range, hk] at h1
    exact ⟨Nat.le_trans (Nat.mul_le_mul_right k (Nat.le_add_right _ _)) h1, hlc⟩
theorem slice_form {t e : TypeId} {fuel : Nat} {v : Value} {y : DataW H × List MemPlace} (hu : Try.prog.underlying t = some (.slice e)) (h : DataW.trod enc Try.prog W base spare held fuel t [v] = some y) : ∃ A n c, v = .slice A n c := by
  rcases Go.Deep.open_slice hu h with ⟨hcs, _⟩ | ⟨a, len, cap, m, k, D, Pl, hcs, _⟩
  · simp at hcs
    exact ⟨none, 0, 0, hcs⟩
  · simp at hcs
    exact ⟨_, len, cap, hcs⟩
theorem bytes_int : Try.prog.bytesOf 3 = 8 := by kernel_rfl
theorem cells_int1 : Try.prog.cellsOf 3 = 1 := by kernel_rfl
/-- A list of numbers. -/
theorem nums_of {fuel : Nat} {A : Option Addr} {n c : Nat} {y : DataW H × List MemPlace} (hw : Near 25 y.1) (h : DataW.trod enc Try.prog W base spare held fuel 25 [.slice A n c] = some y) :
    ∃ ps : List Int, ps.length = n ∧ Nums W W.heap.size .i64 A ps ∧ n ≤ 140737488351232 := by
  have hl8 := (near_len Try.underlying25 bytes_int hw h).1
  rcases open_ints Try.underlying25 Try.underlying3 cells_int1 h with ⟨e1, _⟩ | ⟨p, len, cap, zs, e1, _, hl, hm, hz, _, hzc, hwz⟩
  · simp at e1
    obtain ⟨rfl, rfl, rfl⟩ := e1
    exact ⟨[], rfl, Nums.none_, by omega⟩
  · simp at e1
    obtain ⟨rfl, rfl, rfl⟩ := e1
    have hzl : n ≤ zs.length := by rw [hz]; split <;> omega
    have htl : (zs.take n).length = n := by rw [List.length_take]; omega
    refine ⟨zs.take n, htl, ?_, by omega⟩
    by_cases h0 : n = 0
    · subst h0; exact .inl (by simp)
    · refine .inr ⟨p, rfl, ?_, fun j hj => ?_⟩
      · have := cell_in (hzc 0 (by omega))
        rwa [add_block] at this
      · rw [htl] at hj
        rw [hzc j (by omega)]
        simp [hj]
end
end Go.Proofs.Ytijpieaanlnibaa
/- What a list of records is in memory, out of the reading of an argument. -/
namespace Go.Proofs.Ytijpieaanlnibaa
open Go.ChangeShapes Go.WideShapes Go.ChangeAt Go.RowKit Rcd

theorem ownKnob_none : ownKnob Try.prog.godebug = none := by kernel_rfl
theorem laidOut_true : laidOutB Try.prog = true := by kernel_rfl
theorem cells_string : Try.prog.cellsOf 9 = 1 := by kernel_rfl
theorem cells_int : Try.prog.cellsOf 3 = 1 := by kernel_rfl
theorem cells_bool : Try.prog.cellsOf 4 = 1 := by kernel_rfl
theorem cells_recs : Try.prog.cellsOf 22 = 1 := by kernel_rfl
theorem cells_rec : Try.prog.cellsOf 44 = 6 := by kernel_rfl
theorem add_off {b off : Nat} (k : Nat) : ((⟨b, off, none⟩ : Addr).add k) = ⟨b, off + k, none⟩ := by
  unfold Addr.add; split
  · next h => subst h; rfl
  · rfl

section
variable {H : Type} {enc : TypeId × Value → H} {W : World} {base : Nat} {spare : Nat → Bool} {held : Bool}
theorem one_rec {fuel : Nat} {a : Addr} {cs : List Value} {y : DataW H × List MemPlace} (hc : W.cells? base a 6 = some cs) (h : DataW.trod enc Try.prog W base spare held fuel 44 cs = some y) :
    ∃ r, RAt W a.block a.off r ∧ a.spot = none := by
  obtain ⟨_, hlen, hcell⟩ := World.cells?_some hc
  match cs, hlen with
  | [v0, v1, v2, v3, v4, v5], _ =>
    have g0 := hcell 0 (by omega)
    have g1 := hcell 1 (by omega)
    have g2 := hcell 2 (by omega)
    have g3 := hcell 3 (by omega)
    have g4 := hcell 4 (by omega)
    have g5 := hcell 5 (by omega)
    change W.cell? (a.add 0) = some v0 at g0
    change W.cell? (a.add 1) = some v1 at g1
    change W.cell? (a.add 2) = some v2 at g2
    change W.cell? (a.add 3) = some v3 at g3
    change W.cell? (a.add 4) = some v4 at g4
    change W.cell? (a.add 5) = some v5 at g5
    obtain ⟨ys, n, _, _, _, hyl, hf⟩ := DataW.trod_struct Try.underlying44 h
    have hyl' : ys.length = 6 := by simpa using hyl
    have f0 := hf 0 _ rfl
    have f1 := hf 1 _ rfl
    have f2 := hf 2 _ rfl
    have f3 := hf 3 _ rfl
    have f4 := hf 4 _ rfl
    have f5 := hf 5 _ rfl
    rw [List.getElem?_eq_getElem (by omega)] at f0 f1 f2 f3 f4 f5
    change DataW.trod enc Try.prog W base spare held n 3 (List.take (Try.prog.cellsOf 3) [v0, v1, v2, v3, v4, v5]) = _ at f0
    change DataW.trod enc Try.prog W base spare held n 3 (List.take (Try.prog.cellsOf 3) [v1, v2, v3, v4, v5]) = _ at f1
    change DataW.trod enc Try.prog W base spare held n 9 (List.take (Try.prog.cellsOf 9) [v2, v3, v4, v5]) = _ at f2
    change DataW.trod enc Try.prog W base spare held n 9 (List.take (Try.prog.cellsOf 9) [v3, v4, v5]) = _ at f3
    change DataW.trod enc Try.prog W base spare held n 3 (List.take (Try.prog.cellsOf 3) [v4, v5]) = _ at f4
    change DataW.trod enc Try.prog W base spare held n 4 (List.take (Try.prog.cellsOf 4) [v5]) = _ at f5
    rw [cells_int] at f0 f1 f4
    rw [cells_string] at f2 f3
    rw [cells_bool] at f5
    obtain ⟨o, e0, _, _⟩ := DataW.trod_int Try.underlying3 f0
    obtain ⟨t, e1, _, _⟩ := DataW.trod_int Try.underlying3 f1
    obtain ⟨k, e2, _, _⟩ := DataW.trod_string Try.underlying9 f2
    obtain ⟨b, e3, _, _⟩ := DataW.trod_string Try.underlying9 f3
    obtain ⟨q, e4, _, _⟩ := DataW.trod_int Try.underlying3 f4
    obtain ⟨g, e5, _⟩ := DataW.trod_bool Try.underlying4 f5
    have hsp : a.spot = none := by
      have := World.cell?_spot g0
      simpa [Addr.add] using this
    obtain ⟨bl, off, spot⟩ := a
    obtain rfl : spot = none := hsp
    rw [add_off] at g0 g1 g2 g3 g4 g5
    simp at e0 e1 e2 e3 e4 e5
    subst e0 e1 e2 e3 e4 e5
    refine ⟨⟨o, t, k.data.toList, b.data.toList, q, g⟩, ⟨g0, g1, ?_, ?_, g4, g5⟩, rfl⟩
    · show _ = some (Value.string (str k.data.toList))
      rw [data_str]; exact g2
    · show _ = some (Value.string (str b.data.toList))
      rw [data_str]; exact g3

/-- A slice of records. -/
theorem recs_of_trod {fuel : Nat} {v : Value} {y : DataW H × List MemPlace} (h : DataW.trod enc Try.prog W base spare held fuel 22 [v] = some y) :
    ∃ A l c, v = .slice A (List.length l) c ∧ RecsAt W W.heap.size A l ∧ l.length ≤ 9223372036854775807 := by
  rcases Go.Deep.open_slice Try.underlying22 h with ⟨hcs, _⟩ | ⟨a, len, cap, m, k, D, Pl, hcs, _, hl, hcm, hm, hx, hi⟩
  · simp at hcs
    subst hcs
    exact ⟨none, [], 0, rfl, .inl rfl, by simp⟩
  · simp at hcs
    subst hcs
    have hml : len ≤ m := by rw [hm]; split <;> omega
    rw [cells_rec] at hi
    have key : ∀ i, i < len → ∃ r, RAt W (a.add (i * 6)).block (a.add (i * 6)).off r ∧ (a.add (i * 6)).spot = none := fun i hin => by
      obtain ⟨cs, hc, ht⟩ := hi i (by omega)
      exact one_rec hc ht
    have hcm' : cap ≤ 9223372036854775807 := by unfold maxLen at hcm; omega
    by_cases h0 : len = 0
    · subst h0
      exact ⟨some a, [], cap, rfl, .inl rfl, by simp⟩
    · have hsp : a.spot = none := by
        obtain ⟨_, _, h⟩ := key 0 (by omega)
        simpa [Addr.add] using h
      obtain ⟨b, off, spot⟩ := a
      obtain rfl : spot = none := hsp
      have key2 : ∀ i, ∃ r : Rc, i < len → RAt W b (off + i * 6) r := fun i => by
        by_cases hin : i < len
        · obtain ⟨r, hr, _⟩ := key i hin
          rw [add_off] at hr
          exact ⟨r, fun _ => hr⟩
        · exact ⟨zero, fun h => absurd h hin⟩
      obtain ⟨f, hf⟩ := Classical.axiomOfChoice key2
      refine ⟨some ⟨b, off, none⟩, (List.range len).map f, cap, by simp, .inr ⟨b, off, rfl, ?_, fun j hj => ?_⟩, by simp; omega⟩
      · exact cell_lt (hf 0 (by omega)).c0
      · have hj' : j < len := by simpa using hj
        rw [List.getElem_map, List.getElem_range]
        exact hf j hj'

end
end Go.Proofs.Ytijpieaanlnibaa
/- What a script (a segment, records, numbers, bytes) is in memory, out of the reading of an argument. -/
namespace Go.Proofs.Ytijpieaanlnibaa
open Go.ChangeShapes Go.WideShapes Go.ChangeAt Go.RowKit Rcd

theorem cells_script : Try.prog.cellsOf 27 = 5 := by kernel_rfl
theorem cells_seg : Try.prog.cellsOf 24 = 2 := by kernel_rfl
theorem cells_ints : Try.prog.cellsOf 25 = 1 := by kernel_rfl
theorem bytes_rec : Try.prog.bytesOf 44 = 64 := by kernel_rfl
/-- A script in memory. -/
structure ScAt (W : World) (rs L : List Rc) (ns : List Int) (A B D : Option Addr) (c : Nat) : Prop where
  hA : RecsAt W W.heap.size A rs
  cap : rs.length ≤ c
  lA : rs.length * 64 ≤ 140737488351232
  hB : RecsAt W W.heap.size B L
  lB : L.length * 64 ≤ 140737488351232
  hD : Nums W W.heap.size .i64 D ns
  lD : ns.length ≤ 140737488351232
section
variable {H : Type} {enc : TypeId × Value → H} {W : World} {base : Nat} {held : Bool}
set_option maxRecDepth 100000 in
theorem script_all {b0 : Nat} {v : Value} {d : DataW H} {p : List MemPlace} (hv : Value.okWide Try.prog W .any b0 27 v) (hw : Near 27 d) (h : DataW.Trod enc Try.prog W base (fun _ => true) held 27 v d p) :
    ∃ b rs L ns A B D c cl cn s, v = .agg #[.int .i64 b, .slice A rs.length c, .slice B (List.length L) cl, .slice D (List.length ns) cn, .string s] ∧ ScAt W rs L ns A B D c := by
  obtain ⟨fuel, hf⟩ := h
  obtain ⟨⟨cs⟩, rfl, hsz⟩ := okWide_struct Try.underlying27 hv
  rw [cells_script] at hsz
  match cs, hsz with
  | [v0, v1, v2, v3, v4], _ =>
    change DataW.trod enc Try.prog W base (fun _ => true) held fuel 27 [v0, v1, v2, v3, v4] = _ at hf
    obtain ⟨ys, n, _, hy, _, hyl, hff⟩ := DataW.trod_struct Try.underlying27 hf
    have hd := congrArg Prod.fst hy
    simp only [] at hd
    rw [hd] at hw
    have hyl' : ys.length = 4 := by simpa using hyl
    have f0 := hff 0 _ rfl
    have f1 := hff 1 _ rfl
    have f2 := hff 2 _ rfl
    have f3 := hff 3 _ rfl
    rw [List.getElem?_eq_getElem (by omega)] at f0 f1 f2 f3
    change DataW.trod enc Try.prog W base (fun _ => true) held n 24 (List.take (Try.prog.cellsOf 24) [v0, v1, v2, v3, v4]) = _ at f0
    change DataW.trod enc Try.prog W base (fun _ => true) held n 22 (List.take (Try.prog.cellsOf 22) [v2, v3, v4]) = _ at f1
    change DataW.trod enc Try.prog W base (fun _ => true) held n 25 (List.take (Try.prog.cellsOf 25) [v3, v4]) = _ at f2
    change DataW.trod enc Try.prog W base (fun _ => true) held n 9 (List.take (Try.prog.cellsOf 9) [v4]) = _ at f3
    rw [cells_seg] at f0
    rw [cells_recs] at f1
    rw [cells_ints] at f2
    rw [cells_string] at f3
    have w0 := near_field Try.underlying27 hw (j := 0) rfl rfl (List.getElem?_eq_getElem (by omega))
    have w1 := near_field Try.underlying27 hw (j := 1) rfl rfl (List.getElem?_eq_getElem (by omega))
    have w2 := near_field Try.underlying27 hw (j := 2) rfl rfl (List.getElem?_eq_getElem (by omega))
    change DataW.trod enc Try.prog W base (fun _ => true) held n 24 [v0, v1] = _ at f0
    obtain ⟨zs, m, _, hz, _, hzl, hzz⟩ := DataW.trod_struct Try.underlying24 f0
    have hzd := congrArg Prod.fst hz
    simp only [] at hzd
    rw [hzd] at w0
    have hzl' : zs.length = 2 := by simpa using hzl
    have g0 := hzz 0 _ rfl
    have g1 := hzz 1 _ rfl
    rw [List.getElem?_eq_getElem (by omega)] at g0 g1
    change DataW.trod enc Try.prog W base (fun _ => true) held m 3 (List.take (Try.prog.cellsOf 3) [v0, v1]) = _ at g0
    change DataW.trod enc Try.prog W base (fun _ => true) held m 22 (List.take (Try.prog.cellsOf 22) [v1]) = _ at g1
    rw [cells_int] at g0
    rw [cells_recs] at g1
    have w01 := near_field Try.underlying24 w0 (j := 1) rfl rfl (List.getElem?_eq_getElem (by omega))
    obtain ⟨b, e0, _, _⟩ := DataW.trod_int Try.underlying3 g0
    simp at e0
    subst e0
    obtain ⟨A, rs, c, rfl, hA, _⟩ := recs_of_trod (v := v1) g1
    obtain ⟨lA, cap⟩ := near_len Try.underlying22 bytes_rec w01 g1
    obtain ⟨B, L, cl, rfl, hB, _⟩ := recs_of_trod (v := v2) f1
    obtain ⟨lB, _⟩ := near_len Try.underlying22 bytes_rec w1 f1
    obtain ⟨D, k, cn, rfl⟩ := slice_form (v := v3) Try.underlying25 f2
    obtain ⟨ns, rfl, hD, lD⟩ := nums_of w2 f2
    obtain ⟨s, e4, _, _⟩ := DataW.trod_string Try.underlying9 f3
    simp at e4
    subst e4
    exact ⟨b, rs, L, ns, A, B, D, c, cl, cn, s, rfl, ⟨hA, cap, lA, hB, lB, hD, lD⟩⟩
end
end Go.Proofs.Ytijpieaanlnibaa
