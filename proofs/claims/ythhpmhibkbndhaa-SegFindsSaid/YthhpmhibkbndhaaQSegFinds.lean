/- For every script: package seg and the document's own answer find the same record of any segment, from any offset and from any time on, or none, or refuse it. No condition. -/
import Derived.Deep.CutRange
import Derived.Test.YthhpmhibkbndhaaQ03
/- SegFinds: package seg and the document's own answer find the same record, from any offset and from any time on. -/
namespace Go.Proofs.Ythhpmhibkbndhaa
open Go.RowKit Go.Lib Rcd

/-- Four boxes behind the round's start. -/
@[irreducible] def FX (w : World) (g1 g2 g3 g4 : Nat) (x1 x2 x3 x4 : Array Value) (W : World) : Prop := (Blk W g1 x1 ∧ Blk W g2 x2 ∧ Blk W g3 x3 ∧ Blk W g4 x4) ∧ Below w.heap.size w W ∧ (w.heap.size ≤ g1 ∧ g1 < g2 ∧ g2 < g3 ∧ g3 < g4)
section
variable {w W W' : World} {g1 g2 g3 g4 : Nat} {x1 x2 x3 x4 : Array Value}
theorem FX.mk (h : (Blk W g1 x1 ∧ Blk W g2 x2 ∧ Blk W g3 x3 ∧ Blk W g4 x4) ∧ Below w.heap.size w W ∧ (w.heap.size ≤ g1 ∧ g1 < g2 ∧ g2 < g3 ∧ g3 < g4)) : FX w g1 g2 g3 g4 x1 x2 x3 x4 W := by unfold FX; exact h
theorem FX.out (h : FX w g1 g2 g3 g4 x1 x2 x3 x4 W) : (Blk W g1 x1 ∧ Blk W g2 x2 ∧ Blk W g3 x3 ∧ Blk W g4 x4) ∧ Below w.heap.size w W ∧ (w.heap.size ≤ g1 ∧ g1 < g2 ∧ g2 < g3 ∧ g3 < g4) := by unfold FX at h; exact h
theorem FX.bel (h : FX w g1 g2 g3 g4 x1 x2 x3 x4 W) : Below w.heap.size w W := h.out.2.1
theorem FX.below (h : FX w g1 g2 g3 g4 x1 x2 x3 x4 W) (hb : Below W.heap.size W W') : FX w g1 g2 g3 g4 x1 x2 x3 x4 W' := by
  obtain ⟨⟨h1, h2, h3, h4⟩, h5, h6⟩ := h.out
  exact .mk ⟨⟨h1.below hb, h2.below hb, h3.below hb, h4.below hb⟩, h5.trans (hb.mono h5.size), h6⟩
theorem FX.drewN (h : FX w g1 g2 g3 g4 x1 x2 x3 x4 W) (n : Nat) : FX w g1 g2 g3 g4 x1 x2 x3 x4 (W.drewN n) := h.below (below_drewN (Below.refl _ _) n)
theorem FX.row3 (h : FX w g1 g2 g3 g4 x1 x2 x3 x4 W) (y : Array Value) : FX w g1 g2 g3 g4 x1 x2 y x4 (W.setRow g3 y) := by
  obtain ⟨⟨h1, h2, h3, h4⟩, h5, h6⟩ := h.out
  exact .mk ⟨⟨setRow_blk h1 (by omega) _, setRow_blk h2 (by omega) _, h3.row y, setRow_blk h4 (by omega) _⟩, below_row h5 (by omega) _, h6⟩
theorem FX.row4 (h : FX w g1 g2 g3 g4 x1 x2 x3 x4 W) (y : Array Value) : FX w g1 g2 g3 g4 x1 x2 x3 y (W.setRow g4 y) := by
  obtain ⟨⟨h1, h2, h3, h4⟩, h5, h6⟩ := h.out
  exact .mk ⟨⟨setRow_blk h1 (by omega) _, setRow_blk h2 (by omega) _, setRow_blk h3 (by omega) _, h4.row y⟩, below_row h5 (by omega) _, h6⟩
theorem FX.new (h : Duo w g1 g2 x1 x2 W) (T T' : TypeId) (y3 y4 : Array Value) : FX w g1 g2 W.heap.size (W.heap.size + 1) x1 x2 y3 y4 ((W.alloc (.cells y3 T)).alloc (.cells y4 T')) := by
  obtain ⟨h1, h2, h3, h4, h5⟩ := h.out
  have h0 : (W.alloc (.cells y3 T)).heap.size = W.heap.size + 1 := by simp
  have h6 := Blk.new (W.alloc (.cells y3 T)) T' y4
  rw [h0] at h6
  have b1 := h3.alloc h3.size (.cells y3 T)
  exact .mk ⟨⟨(h1.alloc _).alloc _, (h2.alloc _).alloc _, (Blk.new W T y3).alloc _, h6⟩, b1.alloc b1.size _, h4, h5, h2.lt, Nat.lt_succ_self _⟩
end
theorem Below.step {a w w' : World} (h : Below a.heap.size a w) (hb : Below w.heap.size w w') : Below a.heap.size a w' := h.trans (hb.mono h.size)
/-- A record as a value: its cells, what they are good for. -/
theorem rec_cells (R : Rc) : ∃ cR : Array Value, ragg R = .agg cR ∧ cR.size = 6 ∧ cR.all (·.oneCell') = true ∧ (∀ w, (binOp .neq 31 (.agg cR) (.agg cR)).run Try.prog w = .ok (.bool false) w) :=
  ⟨_, rfl, rfl, one_arr _ _ _ _ _ _, fun w => neq_rec _ _ _ _ _ _ w⟩
theorem zero_cells : ragg zero = .agg #[.int .i64 0, .int .i64 0, .string ⟨#[]⟩, .string ⟨#[]⟩, .int .i64 0, .bool false] := rfl

set_option maxRecDepth 100000 in
set_option maxHeartbeats 64000000 in
theorem SegFinds_any (b : Int) (rs L : List Rc) (ns : List Int) (A B D : Option Addr) (c cl cn : Nat) (x : ByteArray) (w : World) (hl1 : rs.length ≤ 9223372036854775807) (hl2 : L.length ≤ 9223372036854775807) (hl3 : ns.length ≤ 9223372036854775807) (hcap : rs.length ≤ c) (hA : RecsAt w w.heap.size A rs) (hB : RecsAt w w.heap.size B L) (hD : Nums w w.heap.size .i64 D ns) :
    Calls Try.prog 3 #[.agg #[.int .i64 b, .slice A rs.length c, .slice B L.length cl, .slice D ns.length cn, .string x]] w fun e w' => e = .returned (.bool true) ∧ Below w.heap.size w w' := by
  have HV := Lib.hid (fun W (hb : Below w.heap.size w W) => Heavy_is b rs L A B D c cl ns.length cn x W hl1 hl2 (hA.on hb) (hB.on hb))
  obtain ⟨M, hM⟩ : ∃ M, segB b rs = M := ⟨_, rfl⟩
  have HSEG := Lib.hid (fun W (hb : Below w.heap.size w W) => RSeg_is b rs rs.length A c w.heap.size M W rfl hl1 hb.size (hA.below hb) hM)
  have HFI := Lib.hid (fun n a R E W (hb : Below w.heap.size w W) (hF : First (byFind n) rs a) (hO : Out b rs a R E) => SegFind_is n b rs rs.length A c w.heap.size a R E W rfl hl1 hcap hb.size (hA.below hb) hF hO)
  have HSI := Lib.hid (fun n a R E W (hb : Below w.heap.size w W) (hF : First (bySince n) rs a) (hO : Out b rs a R E) => SegSince_is n b rs rs.length A c w.heap.size a R E W rfl hl1 hcap hb.size (hA.below hb) hF hO)
  have HRF := Lib.hid (fun n a W (hb : Below w.heap.size w W) (hF : First (byFind n) rs a) => RFind_is n rs rs.length A c w.heap.size a _ W rfl hl1 (hA.below hb) hF rfl)
  have HRS := Lib.hid (fun n a W (hb : Below w.heap.size w W) (hF : First (bySince n) rs a) => RSince_is n rs rs.length A c w.heap.size a _ W rfl hl1 (hA.below hb) hF rfl)
  have HA := Lib.hid hA
  have HD := Lib.hid hD
  have HM := Lib.hid hM
  have HWK := Lib.hid (fun W => wakes_any W)
  have R0 := Lib.hid (RBox.new w 27 #[.int .i64 b, .slice A rs.length c, .slice B L.length cl, .slice D ns.length cn, .string x])
  obtain ⟨p, hp⟩ : ∃ p, w.heap.size = p := ⟨_, rfl⟩
  obtain ⟨W0, hW⟩ : ∃ W0, w.alloc (.cells #[.int .i64 b, .slice A rs.length c, .slice B L.length cl, .slice D ns.length cn, .string x] 27) = W0 := ⟨_, rfl⟩
  rw [hW, hp] at R0
  have HW := Lib.hid hW
  have HP := Lib.hid hp
  clear hW hp hA hB hD hM
  go_enter Try.func3, Try.ntmps3
  go_upto_region 1 with fail
  rw [HW.out, HP.out]
  clear HW
  have hld := load_script R0.out.out.1 rfl
  go_wp2_with (refine wpList_load_any (by rfl) 27 (.tmp 1) rfl p 0 rfl _ hld ?_; simp only [Act.put])
  refine (HV.out _ R0.out.out.2).mono ?_
  rintro e w1 ⟨v, rfl, _, hb1⟩
  have R1 := Lib.hid (R0.out.below hb1)
  clear R0 hb1 hld HV
  cases v with
  | true =>
    go_wp2_with fail
    go_ret
    exact ⟨rfl, R1.out.out.2⟩
  | false =>
    have hld := load_seg_at (b := b) (v := .slice A rs.length c) (R1.out.cell 0) (R1.out.cell 1)
    go_wp2_with (refine wpList_load_any (by rfl) 24 (.tmp 16) rfl p 0 rfl _ hld ?_; simp only [Act.put])
    refine (HSEG.out _ R1.out.out.2).mono ?_
    rintro e w2 ⟨rfl, hb2⟩
    have R2 := Lib.hid (R1.out.below hb2)
    clear R1 hb2 hld HSEG
    go_wp2_with fail
    go_loopw [4] (fun i wr => ∃ k : Nat, k ≤ 30 ∧ k ≤ ns.length ∧ i = .int .i64 (k : Int) ∧ RBox w p #[.int .i64 b, .slice A rs.length c, .slice B L.length cl, .slice D ns.length cn, .string x] wr) (fun i _ => 30 - (RowKit.intOf i).toNat)
    case atStart => exact ⟨0, by omega, Nat.zero_le _, rfl, R2.out⟩
    case round =>
      obtain ⟨k, hk30, hkn, rfl, hbx⟩ := hrel
      have R := Lib.hid hbx
      clear hbx R2
      have d3 : wr.cell? ⟨p, 3, none⟩ = some (.slice D ns.length cn) := R.out.cell 3
      by_cases hgo : k < ns.length ∧ k < 30
      · obtain ⟨h1, h2⟩ := hgo
        have e1 : (k : Int) < (ns.length : Int) := by omega
        have e2 : (k : Int) < 30 := by omega
        obtain ⟨ad, rfl, hab, hcd⟩ := (HD.out.below R.out.out.2).some_ (by omega)
        have hnn := hcd k h1
        obtain ⟨n, hn⟩ : ∃ n, ns.getD k 0 = n := ⟨_, rfl⟩
        rw [hn] at hnn
        clear hcd hn
        obtain ⟨a, hFa⟩ := first_of (byFind n) rs
        obtain ⟨a2, hFa2⟩ := first_of (bySince n) rs
        obtain ⟨Q, E, hO⟩ := out_ex b rs a hFa.le
        obtain ⟨Q2, E2, hO2⟩ := out_ex b rs a2 hFa2.le
        obtain ⟨cR, hcR, hR6, hR1, hRne⟩ := rec_cells Q
        obtain ⟨cS, hcS, hS6, hS1, hSne⟩ := rec_cells Q2
        have HF1 := Lib.hid (fun W (hb : Below w.heap.size w W) => show Calls Try.prog 6 #[.agg #[.int .i64 b, .slice A rs.length c], .int .i64 n] W (fun e w' => e = .returned (.tuple #[.agg cR, .int .i64 E]) ∧ Below W.heap.size W w') from by
          have := HFI.out n a Q E W hb hFa hO
          rw [hcR] at this
          exact this)
        have HS1 := Lib.hid (fun W (hb : Below w.heap.size w W) => show Calls Try.prog 7 #[.agg #[.int .i64 b, .slice A rs.length c], .int .i64 n] W (fun e w' => e = .returned (.tuple #[.agg cS, .int .i64 E2]) ∧ Below W.heap.size W w') from by
          have := HSI.out n a2 Q2 E2 W hb hFa2 hO2
          rw [hcS] at this
          exact this)
        have HRF1 := Lib.hid (fun W (hb : Below w.heap.size w W) => HRF.out n a W hb hFa)
        have HRS1 := Lib.hid (fun W (hb : Below w.heap.size w W) => HRS.out n a2 W hb hFa2)
        have hw1 : (M = false ∧ cR = #[.int .i64 0, .int .i64 0, .string ⟨#[]⟩, .string ⟨#[]⟩, .int .i64 0, .bool false] ∧ E = 1) ∨ (M = true ∧ a = rs.length ∧ cR = #[.int .i64 0, .int .i64 0, .string ⟨#[]⟩, .string ⟨#[]⟩, .int .i64 0, .bool false] ∧ E = 3) ∨ (M = true ∧ E = 0 ∧ ∃ h : a < rs.length, ragg rs[a] = .agg cR) := by
          rcases hO with ⟨m, rfl, e⟩ | ⟨m, h, rfl, e⟩ | ⟨m, h, rfl, e⟩
          · exact .inl ⟨HM.out.symm.trans m, by rw [zero_cells] at hcR; injection hcR with h; exact h.symm, e⟩
          · exact .inr (.inl ⟨HM.out.symm.trans m, h, by rw [zero_cells] at hcR; injection hcR with h; exact h.symm, e⟩)
          · exact .inr (.inr ⟨HM.out.symm.trans m, e, h, hcR⟩)
        have hw2 : (M = false ∧ cS = #[.int .i64 0, .int .i64 0, .string ⟨#[]⟩, .string ⟨#[]⟩, .int .i64 0, .bool false] ∧ E2 = 1) ∨ (M = true ∧ a2 = rs.length ∧ cS = #[.int .i64 0, .int .i64 0, .string ⟨#[]⟩, .string ⟨#[]⟩, .int .i64 0, .bool false] ∧ E2 = 3) ∨ (M = true ∧ E2 = 0 ∧ ∃ h : a2 < rs.length, ragg rs[a2] = .agg cS) := by
          rcases hO2 with ⟨m, rfl, e⟩ | ⟨m, h, rfl, e⟩ | ⟨m, h, rfl, e⟩
          · exact .inl ⟨HM.out.symm.trans m, by rw [zero_cells] at hcS; injection hcS with h; exact h.symm, e⟩
          · exact .inr (.inl ⟨HM.out.symm.trans m, h, by rw [zero_cells] at hcS; injection hcS with h; exact h.symm, e⟩)
          · exact .inr (.inr ⟨HM.out.symm.trans m, e, h, hcS⟩)
        clear hO hO2 hcR hcS
        have HR6 := Lib.hid hR6
        have HR1 := Lib.hid hR1
        have HS6 := Lib.hid hS6
        have HS11 := Lib.hid hS1
        have HW1 := Lib.hid hw1
        have HW2 := Lib.hid hw2
        have HFA := Lib.hid (And.intro hFa hFa2)
        have HRNE := Lib.hid hRne
        have HSNE := Lib.hid hSne
        clear hR6 hR1 hS6 hS1 hw1 hw2 hFa hFa2 hRne hSne
        obtain ⟨V, hV⟩ : ∃ V, V = wr := ⟨_, rfl⟩
        subst hV
        have hpV : p < V.heap.size := R.out.out.1.lt
        have hbV : ad.block < V.heap.size := Nat.lt_of_lt_of_le hab R.out.out.2.size
        have HN := Lib.hid (fun W (hb : Below V.heap.size V W) => (hb.cell (p := ad.add k) (by rw [add_block]; exact hbV)).trans hnn)
        have HSG := Lib.hid (fun W (hb : Below V.heap.size V W) => load_seg_at (b := b) (v := .slice A rs.length c) ((hb.cell (p := ⟨p, 0, none⟩) hpV).trans (R.out.cell 0)) ((hb.cell (p := ⟨p, 1, none⟩) hpV).trans (R.out.cell 1)))
        have HD3 := Lib.hid (fun W (hb : Below V.heap.size V W) => (hb.cell (p := ⟨p, 3, none⟩) hpV).trans d3)
        have HD1 := Lib.hid (fun W (hb : Below V.heap.size V W) => (hb.cell (p := ⟨p, 1, none⟩) hpV).trans (show V.cell? ⟨p, 1, none⟩ = some (.slice A rs.length c) from R.out.cell 1))
        have HXB := Lib.hid R.out.out.2
        have RV := Lib.hid R.out
        clear hnn
        go_upto_region 7 with fail
        go_cut [5, 6] from 30 to 40 (fun s1 s2 wx => ∃ g, s1 = .pointer (some ⟨g, 0, none⟩) ∧ s2 = .int .i64 E ∧ Hid (RBox V g cR wx ∧ V.heap.size ≤ g))
        case first =>
          have hS0 := below_drewN (Below.refl V.heap.size V) 1
          refine wp_region_held_drew (S := fun W => Below V.heap.size V W) (by kernel_rfl) hS0 (fun hS => ?_)
          clear hS0
          generalize V.drew = Wd at hS ⊢
          refine take_op 0 31 ?v1 rfl rfl (by kernel_rfl) (fun _ _ _ h => h) (by rfl) hS (fun w' hS' => ?hv2) ?hh3
          case hv2 => (go_simp; (try with_reducible rfl); (try omega))
          simp only [Act.put, List.setIfInBounds_toArray, List.set_cons_zero, List.set_cons_succ]
          refine take_load 1 32 24 (.tmp 31) p 0 (.agg #[.int .i64 b, .slice A rs.length c]) rfl rfl (by kernel_rfl) (fun _ _ _ h => h) (by rfl) hS rfl rfl (fun w' hS' => HSG.out w' (hS')) ?hh4
          simp only [Act.put, List.setIfInBounds_toArray, List.set_cons_zero, List.set_cons_succ]
          refine take_op 2 33 ?v5 rfl rfl (by kernel_rfl) (fun _ _ _ h => h) (by rfl) hS (fun w' hS' => ?hv6) ?hh7
          case hv6 => (go_simp; (try with_reducible rfl); (try omega))
          simp only [Act.put, List.setIfInBounds_toArray, List.set_cons_zero, List.set_cons_succ]
          refine take_op 3 34 (.slice (some ad) ns.length cn) rfl rfl (by kernel_rfl) (fun _ _ _ h => h) (by rfl) hS (fun w' hS' => ?hv8) ?hh9
          case hv8 => (have d3 : w'.cell? ⟨p, 3, none⟩ = some (.slice (some ad) ns.length cn) := HD3.out w' (hS'); go_simp; (try with_reducible rfl); (try omega))
          simp only [Act.put, List.setIfInBounds_toArray, List.set_cons_zero, List.set_cons_succ]
          refine take_op 4 35 ?v10 rfl rfl (by kernel_rfl) (fun _ _ _ h => h) (by rfl) hS (fun w' hS' => ?hv11) ?hh12
          case hv11 => (go_simp; (try with_reducible rfl); (try omega))
          simp only [Act.put, List.setIfInBounds_toArray, List.set_cons_zero, List.set_cons_succ]
          refine take_op 5 36 (.pointer (some (ad.add k))) rfl rfl (by kernel_rfl) (fun _ _ _ h => h) (by rfl) hS (fun w' hS' => ?hv13) ?hh14
          case hv13 => (go_simp; (try with_reducible rfl); (try omega))
          simp only [Act.put, List.setIfInBounds_toArray, List.set_cons_zero, List.set_cons_succ]
          refine take_op 6 37 (.int .i64 n) rfl rfl (by kernel_rfl) (fun _ _ _ h => h) (by rfl) hS (fun w' hS' => ?hv15) ?hh16
          case hv15 => (have dn := HN.out w' (hS'); go_simp; (try with_reducible rfl); (try omega))
          simp only [Act.put, List.setIfInBounds_toArray, List.set_cons_zero, List.set_cons_succ]
          refine two_ops 7 11 rfl rfl (by kernel_rfl) (by rfl) (by rfl) (wp_call 38 6 #[.agg #[.int .i64 b, .slice A rs.length c], .int .i64 n] (.tuple #[.agg cR, .int .i64 E]) (fun W => Below Wd.heap.size Wd W) rfl (by go_simp) (HF1.out Wd (HXB.out.trans ((hS).mono HXB.out.size))) (fun Wa hb3 => ⟨Below.step hS hb3, ?_⟩)) (wp_made 5 (.pointer (some ⟨Wd.heap.size, 0, none⟩)) rfl (w' := Wd.alloc (.cells #[.int .i64 0, .int .i64 0, .string ⟨#[]⟩, .string ⟨#[]⟩, .int .i64 0, .bool false] 31)) (by go_simp; try rfl) ⟨Below.step hS ((Below.refl _ _).alloc (Nat.le_refl _) _), ?_⟩)
          · simp only [Act.put, List.setIfInBounds_toArray, List.set_cons_zero, List.set_cons_succ]
            have hS := Below.step hS hb3
            clear hb3
            refine take_op 8 30 ?v17 rfl rfl (by kernel_rfl) (fun _ _ _ h => h) (by rfl) hS (fun w' hS' => ?hv18) ?hh19
            case hv18 => (go_simp; (try with_reducible rfl); (try omega))
            simp only [Act.put, List.setIfInBounds_toArray, List.set_cons_zero, List.set_cons_succ]
            refine take_op 9 39 (.agg cR) rfl rfl (by kernel_rfl) (fun _ _ _ h => h) (by rfl) hS (fun w' hS' => ?hv20) ?hh21
            case hv20 => (go_simp; (try with_reducible rfl); (try omega))
            simp only [Act.put, List.setIfInBounds_toArray, List.set_cons_zero, List.set_cons_succ]
            refine take_op 10 40 (.int .i64 E) rfl rfl (by kernel_rfl) (fun _ _ _ h => h) (by rfl) hS (fun w' hS' => ?hv22) ?hh23
            case hv22 => (go_simp; (try with_reducible rfl); (try omega))
            simp only [Act.put, List.setIfInBounds_toArray, List.set_cons_zero, List.set_cons_succ]
            refine only_op 11 rfl (by kernel_rfl) (by rfl) (wp_made 5 (.pointer (some ⟨Wa.heap.size, 0, none⟩)) rfl (w' := Wa.alloc (.cells #[.int .i64 0, .int .i64 0, .string ⟨#[]⟩, .string ⟨#[]⟩, .int .i64 0, .bool false] 31)) (by go_simp; try rfl) ⟨Below.step hS ((Below.refl _ _).alloc (Nat.le_refl _) _), ?_⟩)
            simp only [Act.put, List.setIfInBounds_toArray, List.set_cons_zero, List.set_cons_succ]
            have hQ := Blk.new Wa 31 #[.int .i64 0, .int .i64 0, .string ⟨#[]⟩, .string ⟨#[]⟩, .int .i64 0, .bool false]
            have hbl := (Below.refl Wa.heap.size Wa).alloc (Nat.le_refl _) (.cells #[.int .i64 0, .int .i64 0, .string ⟨#[]⟩, .string ⟨#[]⟩, .int .i64 0, .bool false] 31)
            have hgV : V.heap.size ≤ Wa.heap.size := (hS).size
            have hS := Below.step hS hbl
            generalize Wa.alloc _ = Wb at hQ hS ⊢
            generalize Wa.heap.size = g at hQ hgV ⊢
            clear hbl
            have hS9 := below_row hS hgV cR
            have hx9 : Hid (RBox V g cR (Wb.setRow g cR) ∧ V.heap.size ≤ g) := Lib.hid ⟨.mk (hQ.row cR) hS9, hgV⟩
            obtain ⟨TT, hTT⟩ := hQ
            refine only_op 12 rfl (by kernel_rfl) (by rfl) (wp_store_row 31 (.tmp 5) (.tmp 39) rfl g cR rfl rfl TT _ hTT (by rw [info_rec, HR6.out]) (by rw [HR6.out]; rfl) HR1.out ⟨hS9, ?_⟩)
            (try simp only [put_none])
            refine take_op 13 6 (.int .i64 E) rfl rfl (by kernel_rfl) (fun _ _ _ h => h) (by rfl) hS9 (fun w' hS' => ?hv24) ?hh25
            case hv24 => (go_simp; (try with_reducible rfl); (try omega))
            simp only [Act.put, List.setIfInBounds_toArray, List.set_cons_zero, List.set_cons_succ]
            refine wpAnyH_done (by kernel_rfl) ?_ _
            go_wp2_with fail
            go_meet
            exact ⟨_, rfl, rfl, hx9⟩
          · simp only [Act.put, List.setIfInBounds_toArray, List.set_cons_zero, List.set_cons_succ]
            have hQ := Blk.new Wd 31 #[.int .i64 0, .int .i64 0, .string ⟨#[]⟩, .string ⟨#[]⟩, .int .i64 0, .bool false]
            have hbl := (Below.refl Wd.heap.size Wd).alloc (Nat.le_refl _) (.cells #[.int .i64 0, .int .i64 0, .string ⟨#[]⟩, .string ⟨#[]⟩, .int .i64 0, .bool false] 31)
            have hgV : V.heap.size ≤ Wd.heap.size := (hS).size
            have hS := Below.step hS hbl
            generalize Wd.alloc _ = Wb at hQ hS ⊢
            generalize Wd.heap.size = g at hQ hgV ⊢
            clear hbl
            refine only_op 7 rfl (by kernel_rfl) (by rfl) (wp_call 38 6 #[.agg #[.int .i64 b, .slice A rs.length c], .int .i64 n] (.tuple #[.agg cR, .int .i64 E]) (fun W => Below Wb.heap.size Wb W) rfl (by go_simp) (HF1.out Wb (HXB.out.trans ((hS).mono HXB.out.size))) (fun Wc hb3 => ⟨Below.step hS hb3, ?_⟩))
            simp only [Act.put, List.setIfInBounds_toArray, List.set_cons_zero, List.set_cons_succ]
            have hS := Below.step hS hb3
            have hQ := hQ.below hb3
            clear hb3
            refine take_op 8 30 ?v26 rfl rfl (by kernel_rfl) (fun _ _ _ h => h) (by rfl) hS (fun w' hS' => ?hv27) ?hh28
            case hv27 => (go_simp; (try with_reducible rfl); (try omega))
            simp only [Act.put, List.setIfInBounds_toArray, List.set_cons_zero, List.set_cons_succ]
            refine take_op 9 39 (.agg cR) rfl rfl (by kernel_rfl) (fun _ _ _ h => h) (by rfl) hS (fun w' hS' => ?hv29) ?hh30
            case hv29 => (go_simp; (try with_reducible rfl); (try omega))
            simp only [Act.put, List.setIfInBounds_toArray, List.set_cons_zero, List.set_cons_succ]
            refine take_op 10 40 (.int .i64 E) rfl rfl (by kernel_rfl) (fun _ _ _ h => h) (by rfl) hS (fun w' hS' => ?hv31) ?hh32
            case hv31 => (go_simp; (try with_reducible rfl); (try omega))
            simp only [Act.put, List.setIfInBounds_toArray, List.set_cons_zero, List.set_cons_succ]
            have hS9 := below_row hS hgV cR
            have hx9 : Hid (RBox V g cR (Wc.setRow g cR) ∧ V.heap.size ≤ g) := Lib.hid ⟨.mk (hQ.row cR) hS9, hgV⟩
            obtain ⟨TT, hTT⟩ := hQ
            refine only_op 12 rfl (by kernel_rfl) (by rfl) (wp_store_row 31 (.tmp 5) (.tmp 39) rfl g cR rfl rfl TT _ hTT (by rw [info_rec, HR6.out]) (by rw [HR6.out]; rfl) HR1.out ⟨hS9, ?_⟩)
            (try simp only [put_none])
            refine take_op 13 6 (.int .i64 E) rfl rfl (by kernel_rfl) (fun _ _ _ h => h) (by rfl) hS9 (fun w' hS' => ?hv33) ?hh34
            case hv33 => (go_simp; (try with_reducible rfl); (try omega))
            simp only [Act.put, List.setIfInBounds_toArray, List.set_cons_zero, List.set_cons_succ]
            refine wpAnyH_done (by kernel_rfl) ?_ _
            go_wp2_with fail
            go_meet
            exact ⟨_, rfl, rfl, hx9⟩
        case rest =>
          obtain ⟨g5, rfl, rfl, hx⟩ := hcut
          have B5 := Lib.hid hx.out.1
          have hg5 := hx.out.2
          clear hx R HF1 d3
          go_upto_region 8 with fail
          go_cut [7, 8] from 41 to 51 (fun s1 s2 wx => ∃ g, s1 = .pointer (some ⟨g, 0, none⟩) ∧ s2 = .int .i64 E2 ∧ Hid (Duo V g5 g cR cS wx))
          case first =>
            have hS0 := B5.out.drewN 1
            refine wp_region_held_drew (S := fun W => RBox V g5 cR W) (by kernel_rfl) hS0 (fun hS => ?_)
            clear hS0
            generalize wc.drew = Wd at hS ⊢
            refine take_op 0 42 ?v35 rfl rfl (by kernel_rfl) (fun _ _ _ h => h) (by rfl) hS (fun w' hS' => ?hv36) ?hh37
            case hv36 => (go_simp; (try with_reducible rfl); (try omega))
            simp only [Act.put, List.setIfInBounds_toArray, List.set_cons_zero, List.set_cons_succ]
            refine take_load 1 43 24 (.tmp 42) p 0 (.agg #[.int .i64 b, .slice A rs.length c]) rfl rfl (by kernel_rfl) (fun _ _ _ h => h) (by rfl) hS rfl rfl (fun w' hS' => HSG.out w' (hS'.out.2)) ?hh38
            simp only [Act.put, List.setIfInBounds_toArray, List.set_cons_zero, List.set_cons_succ]
            refine take_op 2 44 ?v39 rfl rfl (by kernel_rfl) (fun _ _ _ h => h) (by rfl) hS (fun w' hS' => ?hv40) ?hh41
            case hv40 => (go_simp; (try with_reducible rfl); (try omega))
            simp only [Act.put, List.setIfInBounds_toArray, List.set_cons_zero, List.set_cons_succ]
            refine take_op 3 45 (.slice (some ad) ns.length cn) rfl rfl (by kernel_rfl) (fun _ _ _ h => h) (by rfl) hS (fun w' hS' => ?hv42) ?hh43
            case hv42 => (have d3 : w'.cell? ⟨p, 3, none⟩ = some (.slice (some ad) ns.length cn) := HD3.out w' (hS'.out.2); go_simp; (try with_reducible rfl); (try omega))
            simp only [Act.put, List.setIfInBounds_toArray, List.set_cons_zero, List.set_cons_succ]
            refine take_op 4 46 ?v44 rfl rfl (by kernel_rfl) (fun _ _ _ h => h) (by rfl) hS (fun w' hS' => ?hv45) ?hh46
            case hv45 => (go_simp; (try with_reducible rfl); (try omega))
            simp only [Act.put, List.setIfInBounds_toArray, List.set_cons_zero, List.set_cons_succ]
            refine take_op 5 47 (.pointer (some (ad.add k))) rfl rfl (by kernel_rfl) (fun _ _ _ h => h) (by rfl) hS (fun w' hS' => ?hv47) ?hh48
            case hv47 => (go_simp; (try with_reducible rfl); (try omega))
            simp only [Act.put, List.setIfInBounds_toArray, List.set_cons_zero, List.set_cons_succ]
            refine take_op 6 48 (.int .i64 n) rfl rfl (by kernel_rfl) (fun _ _ _ h => h) (by rfl) hS (fun w' hS' => ?hv49) ?hh50
            case hv49 => (have dn := HN.out w' (hS'.out.2); go_simp; (try with_reducible rfl); (try omega))
            simp only [Act.put, List.setIfInBounds_toArray, List.set_cons_zero, List.set_cons_succ]
            refine two_ops 7 11 rfl rfl (by kernel_rfl) (by rfl) (by rfl) (wp_call 49 7 #[.agg #[.int .i64 b, .slice A rs.length c], .int .i64 n] (.tuple #[.agg cS, .int .i64 E2]) (fun W => Below Wd.heap.size Wd W) rfl (by go_simp) (HS1.out Wd (HXB.out.trans ((hS.out.2).mono HXB.out.size))) (fun Wa hb3 => ⟨RBox.below hS hb3, ?_⟩)) (wp_made 7 (.pointer (some ⟨Wd.heap.size, 0, none⟩)) rfl (w' := Wd.alloc (.cells #[.int .i64 0, .int .i64 0, .string ⟨#[]⟩, .string ⟨#[]⟩, .int .i64 0, .bool false] 31)) (by go_simp; try rfl) ⟨RBox.below hS ((Below.refl _ _).alloc (Nat.le_refl _) _), ?_⟩)
            · simp only [Act.put, List.setIfInBounds_toArray, List.set_cons_zero, List.set_cons_succ]
              have hS := RBox.below hS hb3
              clear hb3
              refine take_op 8 41 ?v51 rfl rfl (by kernel_rfl) (fun _ _ _ h => h) (by rfl) hS (fun w' hS' => ?hv52) ?hh53
              case hv52 => (go_simp; (try with_reducible rfl); (try omega))
              simp only [Act.put, List.setIfInBounds_toArray, List.set_cons_zero, List.set_cons_succ]
              refine take_op 9 50 (.agg cS) rfl rfl (by kernel_rfl) (fun _ _ _ h => h) (by rfl) hS (fun w' hS' => ?hv54) ?hh55
              case hv54 => (go_simp; (try with_reducible rfl); (try omega))
              simp only [Act.put, List.setIfInBounds_toArray, List.set_cons_zero, List.set_cons_succ]
              refine take_op 10 51 (.int .i64 E2) rfl rfl (by kernel_rfl) (fun _ _ _ h => h) (by rfl) hS (fun w' hS' => ?hv56) ?hh57
              case hv56 => (go_simp; (try with_reducible rfl); (try omega))
              simp only [Act.put, List.setIfInBounds_toArray, List.set_cons_zero, List.set_cons_succ]
              refine only_op 11 rfl (by kernel_rfl) (by rfl) (wp_made 7 (.pointer (some ⟨Wa.heap.size, 0, none⟩)) rfl (w' := Wa.alloc (.cells #[.int .i64 0, .int .i64 0, .string ⟨#[]⟩, .string ⟨#[]⟩, .int .i64 0, .bool false] 31)) (by go_simp; try rfl) ⟨RBox.below hS ((Below.refl _ _).alloc (Nat.le_refl _) _), ?_⟩)
              simp only [Act.put, List.setIfInBounds_toArray, List.set_cons_zero, List.set_cons_succ]
              have hQ := Blk.new Wa 31 #[.int .i64 0, .int .i64 0, .string ⟨#[]⟩, .string ⟨#[]⟩, .int .i64 0, .bool false]
              have hbl := (Below.refl Wa.heap.size Wa).alloc (Nat.le_refl _) (.cells #[.int .i64 0, .int .i64 0, .string ⟨#[]⟩, .string ⟨#[]⟩, .int .i64 0, .bool false] 31)
              have hgV : V.heap.size ≤ Wa.heap.size := (hS.out.2).size
              have hg5g : g5 < Wa.heap.size := hS.out.1.lt
              have hS := RBox.below hS hbl
              generalize Wa.alloc _ = Wb at hQ hS ⊢
              generalize Wa.heap.size = g at hQ hgV hg5g ⊢
              clear hbl
              have hx9 : Hid (Duo V g5 g cR cS (Wb.setRow g cS)) := Lib.hid (.mk ⟨setRow_blk hS.out.1 (by omega) _, hQ.row cS, below_row hS.out.2 hgV _, hg5, hg5g⟩)
              have hS9 := hx9.out.box1
              obtain ⟨TT, hTT⟩ := hQ
              refine only_op 12 rfl (by kernel_rfl) (by rfl) (wp_store_row 31 (.tmp 7) (.tmp 50) rfl g cS rfl rfl TT _ hTT (by rw [info_rec, HS6.out]) (by rw [HS6.out]; rfl) HS11.out ⟨hS9, ?_⟩)
              (try simp only [put_none])
              refine take_op 13 8 (.int .i64 E2) rfl rfl (by kernel_rfl) (fun _ _ _ h => h) (by rfl) hS9 (fun w' hS' => ?hv58) ?hh59
              case hv58 => (go_simp; (try with_reducible rfl); (try omega))
              simp only [Act.put, List.setIfInBounds_toArray, List.set_cons_zero, List.set_cons_succ]
              refine wpAnyH_done (by kernel_rfl) ?_ _
              go_wp2_with fail
              go_meet
              exact ⟨_, rfl, rfl, hx9⟩
            · simp only [Act.put, List.setIfInBounds_toArray, List.set_cons_zero, List.set_cons_succ]
              have hQ := Blk.new Wd 31 #[.int .i64 0, .int .i64 0, .string ⟨#[]⟩, .string ⟨#[]⟩, .int .i64 0, .bool false]
              have hbl := (Below.refl Wd.heap.size Wd).alloc (Nat.le_refl _) (.cells #[.int .i64 0, .int .i64 0, .string ⟨#[]⟩, .string ⟨#[]⟩, .int .i64 0, .bool false] 31)
              have hgV : V.heap.size ≤ Wd.heap.size := (hS.out.2).size
              have hg5g : g5 < Wd.heap.size := hS.out.1.lt
              have hS := RBox.below hS hbl
              generalize Wd.alloc _ = Wb at hQ hS ⊢
              generalize Wd.heap.size = g at hQ hgV hg5g ⊢
              clear hbl
              refine only_op 7 rfl (by kernel_rfl) (by rfl) (wp_call 49 7 #[.agg #[.int .i64 b, .slice A rs.length c], .int .i64 n] (.tuple #[.agg cS, .int .i64 E2]) (fun W => Below Wb.heap.size Wb W) rfl (by go_simp) (HS1.out Wb (HXB.out.trans ((hS.out.2).mono HXB.out.size))) (fun Wc hb3 => ⟨RBox.below hS hb3, ?_⟩))
              simp only [Act.put, List.setIfInBounds_toArray, List.set_cons_zero, List.set_cons_succ]
              have hS := RBox.below hS hb3
              have hQ := hQ.below hb3
              clear hb3
              refine take_op 8 41 ?v60 rfl rfl (by kernel_rfl) (fun _ _ _ h => h) (by rfl) hS (fun w' hS' => ?hv61) ?hh62
              case hv61 => (go_simp; (try with_reducible rfl); (try omega))
              simp only [Act.put, List.setIfInBounds_toArray, List.set_cons_zero, List.set_cons_succ]
              refine take_op 9 50 (.agg cS) rfl rfl (by kernel_rfl) (fun _ _ _ h => h) (by rfl) hS (fun w' hS' => ?hv63) ?hh64
              case hv63 => (go_simp; (try with_reducible rfl); (try omega))
              simp only [Act.put, List.setIfInBounds_toArray, List.set_cons_zero, List.set_cons_succ]
              refine take_op 10 51 (.int .i64 E2) rfl rfl (by kernel_rfl) (fun _ _ _ h => h) (by rfl) hS (fun w' hS' => ?hv65) ?hh66
              case hv65 => (go_simp; (try with_reducible rfl); (try omega))
              simp only [Act.put, List.setIfInBounds_toArray, List.set_cons_zero, List.set_cons_succ]
              have hx9 : Hid (Duo V g5 g cR cS (Wc.setRow g cS)) := Lib.hid (.mk ⟨setRow_blk hS.out.1 (by omega) _, hQ.row cS, below_row hS.out.2 hgV _, hg5, hg5g⟩)
              have hS9 := hx9.out.box1
              obtain ⟨TT, hTT⟩ := hQ
              refine only_op 12 rfl (by kernel_rfl) (by rfl) (wp_store_row 31 (.tmp 7) (.tmp 50) rfl g cS rfl rfl TT _ hTT (by rw [info_rec, HS6.out]) (by rw [HS6.out]; rfl) HS11.out ⟨hS9, ?_⟩)
              (try simp only [put_none])
              refine take_op 13 8 (.int .i64 E2) rfl rfl (by kernel_rfl) (fun _ _ _ h => h) (by rfl) hS9 (fun w' hS' => ?hv67) ?hh68
              case hv67 => (go_simp; (try with_reducible rfl); (try omega))
              simp only [Act.put, List.setIfInBounds_toArray, List.set_cons_zero, List.set_cons_succ]
              refine wpAnyH_done (by kernel_rfl) ?_ _
              go_wp2_with fail
              go_meet
              exact ⟨_, rfl, rfl, hx9⟩
          case rest =>
            obtain ⟨g7, rfl, rfl, hx⟩ := hcut
            have D7 := Lib.hid hx.out
            clear hx B5 HS1
            have F0 := Lib.hid (FX.new D7.out 31 31 #[.int .i64 0, .int .i64 0, .string ⟨#[]⟩, .string ⟨#[]⟩, .int .i64 0, .bool false] #[.int .i64 0, .int .i64 0, .string ⟨#[]⟩, .string ⟨#[]⟩, .int .i64 0, .bool false])
            obtain ⟨g11, hg11⟩ : ∃ g, wc.heap.size = g := ⟨_, rfl⟩
            obtain ⟨W11, hW11⟩ : ∃ W, (wc.alloc (.cells #[.int .i64 0, .int .i64 0, .string ⟨#[]⟩, .string ⟨#[]⟩, .int .i64 0, .bool false] 31)).alloc (.cells #[.int .i64 0, .int .i64 0, .string ⟨#[]⟩, .string ⟨#[]⟩, .int .i64 0, .bool false] 31) = W := ⟨_, rfl⟩
            rw [hg11, hW11] at F0
            have HW11 := Lib.hid hW11
            have HG11 := Lib.hid hg11
            clear hW11 hg11 D7
            go_upto_region 11 with fail
            rw [HW11.out, HG11.out]
            clear HW11 HG11
            generalize g11 + 1 = g12 at F0 ⊢
            have hE1 : (E != E) = false := by simp
            have hE2 : (E2 != E2) = false := by simp
            have hne1 := HRNE.out
            have hne2 := HSNE.out
            cases M with
            | false =>
              obtain ⟨rfl, rfl⟩ : cR = #[.int .i64 0, .int .i64 0, .string ⟨#[]⟩, .string ⟨#[]⟩, .int .i64 0, .bool false] ∧ E = 1 := by
                rcases HW1.out with ⟨_, h, e⟩ | ⟨h, _⟩ | ⟨h, _⟩
                · exact ⟨h, e⟩
                · cases h
                · cases h
              obtain ⟨rfl, rfl⟩ : cS = #[.int .i64 0, .int .i64 0, .string ⟨#[]⟩, .string ⟨#[]⟩, .int .i64 0, .bool false] ∧ E2 = 1 := by
                rcases HW2.out with ⟨_, h, e⟩ | ⟨h, _⟩ | ⟨h, _⟩
                · exact ⟨h, e⟩
                · cases h
                · cases h
              have F9 := F0
              clear F0
              have hl5 := load_blk F9.out.out.1.1 HR6.out
              have hl7 := load_blk F9.out.out.1.2.1 HS6.out
              have hl11 := load_blk F9.out.out.1.2.2.1 HR6.out
              have hl12 := load_blk F9.out.out.1.2.2.2 HS6.out
              go_wp2_with (first | (refine wpList_load_any (by rfl) 31 (.tmp 5) rfl g5 0 rfl _ hl5 ?_; simp only [Act.put]) | (refine wpList_load_any (by rfl) 31 (.tmp 7) rfl g7 0 rfl _ hl7 ?_; simp only [Act.put]) | (refine wpList_load_any (by rfl) 31 (.tmp 11) rfl g11 0 rfl _ hl11 ?_; simp only [Act.put]) | (refine wpList_load_any (by rfl) 31 (.tmp 12) rfl g12 0 rfl _ hl12 ?_; simp only [Act.put]) | (go_at_call 10; refine (num_is _ _).mono ?_; rintro e w' ⟨rfl, rfl⟩))
              go_roundw
              case rel => exact ⟨k + 1, h2, h1, by go_num, RV.out.below F9.out.bel⟩
              case measure => simp [RowKit.intOf]; omega
            | true =>
              go_upto_region 13 with fail
              obtain ⟨zz, hzz⟩ : ∃ zz, atOf a rs.length = zz := ⟨_, rfl⟩
              rw [hzz] at HRF1
              have HZZ := Lib.hid hzz
              have hz0 : -9223372036854775808 ≤ zz ∧ zz ≤ 9223372036854775807 := by rw [← hzz]; unfold atOf; split <;> omega
              clear hzz
              have st0 := F0.out
              clear F0
              haveI : Nonempty (In (FX V g5 g7 g11 g12 cR cS #[.int .i64 0, .int .i64 0, .string ⟨#[]⟩, .string ⟨#[]⟩, .int .i64 0, .bool false] #[.int .i64 0, .int .i64 0, .string ⟨#[]⟩, .string ⟨#[]⟩, .int .i64 0, .bool false])) := ⟨⟨_, st0⟩⟩
              have k1 := fun u : In (FX V g5 g7 g11 g12 cR cS #[.int .i64 0, .int .i64 0, .string ⟨#[]⟩, .string ⟨#[]⟩, .int .i64 0, .bool false] #[.int .i64 0, .int .i64 0, .string ⟨#[]⟩, .string ⟨#[]⟩, .int .i64 0, .bool false]) => HD1.out u.w u.h.bel
              have k3 := fun u : In (FX V g5 g7 g11 g12 cR cS #[.int .i64 0, .int .i64 0, .string ⟨#[]⟩, .string ⟨#[]⟩, .int .i64 0, .bool false] #[.int .i64 0, .int .i64 0, .string ⟨#[]⟩, .string ⟨#[]⟩, .int .i64 0, .bool false]) => HD3.out u.w u.h.bel
              have kn := fun u : In (FX V g5 g7 g11 g12 cR cS #[.int .i64 0, .int .i64 0, .string ⟨#[]⟩, .string ⟨#[]⟩, .int .i64 0, .bool false] #[.int .i64 0, .int .i64 0, .string ⟨#[]⟩, .string ⟨#[]⟩, .int .i64 0, .bool false]) => HN.out u.w u.h.bel
              refine region_in (S := FX V g5 g7 g11 g12 cR cS #[.int .i64 0, .int .i64 0, .string ⟨#[]⟩, .string ⟨#[]⟩, .int .i64 0, .bool false] #[.int .i64 0, .int .i64 0, .string ⟨#[]⟩, .string ⟨#[]⟩, .int .i64 0, .bool false]) (by kernel_rfl) (by kernel_rfl) (st0.drewN 1) ?_
              repeat (go_big_quiet_step (first | (go_at_call 8; exact in_call ((HRF1.out _ (HXB.out.trans ((FX.bel (In.h _)).mono HXB.out.size))).mono fun _ _ h => ⟨h.1, h.2 ▸ In.h _⟩))))
              refine wpQuiet_nil ?_
              rintro w13 ⟨⟨w7, st7⟩, rfl⟩
              have F1 := Lib.hid st7
              clear this st0 st7 k1 k3 kn HRF1
              go_upto_if 63 with fail
              go_cut [9] from 64 to 69 (fun s9 wx => s9 = .int .i64 E ∧ FX V g5 g7 g11 g12 cR cS cR #[.int .i64 0, .int .i64 0, .string ⟨#[]⟩, .string ⟨#[]⟩, .int .i64 0, .bool false] wx)
              case first =>
                rcases HW1.out with ⟨h, _⟩ | ⟨_, ha, rfl, rfl⟩ | ⟨_, rfl, ha, hca⟩
                · cases h
                · obtain rfl : zz = -1 := by rw [← HZZ.out, ha]; exact if_neg (Nat.lt_irrefl _)
                  go_wp2_with fail
                  go_meet
                  exact ⟨rfl, F1.out⟩
                · obtain rfl : zz = (a : Int) := by rw [← HZZ.out]; exact if_pos ha
                  obtain ⟨b0, o0, rfl, hb0, hc⟩ := HA.out.some_ (by omega)
                  have hra := hc a ha
                  have HLD := Lib.hid (fun W (hb : Below V.heap.size V W) => show (loadVar 31 ⟨b0, o0 + a * 6, none⟩).run Try.prog W = .ok (.agg cR) W from by
                    have := load_at (hra.keep (w' := W) (fun i => (HXB.out.trans (hb.mono HXB.out.size)).cell (p := ⟨b0, i, none⟩) hb0))
                    rw [hca] at this
                    exact this)
                  have ha1 : (a : Int) < (rs.length : Int) := by omega
                  have ha2 : decide ((0 : Int) ≤ (a : Int)) = true := decide_eq_true (by omega)
                  clear hc hra hca
                  go_upto_region 15 with fail
                  have hS0 := F1.out.drewN 1
                  clear F1
                  refine wp_region_held_drew (S := fun W => ∃ y, FX V g5 g7 g11 g12 cR cS y #[.int .i64 0, .int .i64 0, .string ⟨#[]⟩, .string ⟨#[]⟩, .int .i64 0, .bool false] W) (by kernel_rfl) ⟨_, hS0⟩ (fun hS1 => ?_)
                  have hS : FX V g5 g7 g11 g12 cR cS #[.int .i64 0, .int .i64 0, .string ⟨#[]⟩, .string ⟨#[]⟩, .int .i64 0, .bool false] #[.int .i64 0, .int .i64 0, .string ⟨#[]⟩, .string ⟨#[]⟩, .int .i64 0, .bool false] w13.drew := hS0
                  clear hS0 hS1
                  generalize w13.drew = Wd at hS ⊢
                  refine take_op 0 64 ?v69 rfl rfl (by kernel_rfl) (fun _ _ _ h => h) (by rfl) ⟨_, hS⟩ (fun w' hS' => ?hv70) ?hh71
                  case hv70 => (go_simp; (try with_reducible rfl); (try omega))
                  simp only [Act.put, List.setIfInBounds_toArray, List.set_cons_zero, List.set_cons_succ]
                  refine take_op 1 65 ?v72 rfl rfl (by kernel_rfl) (fun _ _ _ h => h) (by rfl) ⟨_, hS⟩ (fun w' hS' => ?hv73) ?hh74
                  case hv73 => (go_simp; (try with_reducible rfl); (try omega))
                  simp only [Act.put, List.setIfInBounds_toArray, List.set_cons_zero, List.set_cons_succ]
                  refine take_op 2 66 (.slice (some ⟨b0, o0, none⟩) rs.length c) rfl rfl (by kernel_rfl) (fun _ _ _ h => h) (by rfl) ⟨_, hS⟩ (fun w' hS' => ?hv75) ?hh76
                  case hv75 => (obtain ⟨y, hS'⟩ := hS'; have d1 := HD1.out w' hS'.bel; go_simp; (try with_reducible rfl); (try omega))
                  simp only [Act.put, List.setIfInBounds_toArray, List.set_cons_zero, List.set_cons_succ]
                  refine take_op 3 67 ?v77 rfl rfl (by kernel_rfl) (fun _ _ _ h => h) (by rfl) ⟨_, hS⟩ (fun w' hS' => ?hv78) ?hh79
                  case hv78 => (go_simp; (try with_reducible rfl); (try omega))
                  simp only [Act.put, List.setIfInBounds_toArray, List.set_cons_zero, List.set_cons_succ]
                  refine take_op 4 68 (.pointer (some ⟨b0, o0 + a * 6, none⟩)) rfl rfl (by kernel_rfl) (fun _ _ _ h => h) (by rfl) ⟨_, hS⟩ (fun w' hS' => ?hv80) ?hh81
                  case hv80 => (go_simp; (try with_reducible rfl); (try omega))
                  simp only [Act.put, List.setIfInBounds_toArray, List.set_cons_zero, List.set_cons_succ]
                  refine take_load 5 69 31 (.tmp 68) b0 (o0 + a * 6) (.agg cR) rfl rfl (by kernel_rfl) (fun _ _ _ h => h) (by rfl) ⟨_, hS⟩ rfl rfl (fun w' hS' => by obtain ⟨y, hS'⟩ := hS'; exact HLD.out w' hS'.bel) ?hh82
                  simp only [Act.put, List.setIfInBounds_toArray, List.set_cons_zero, List.set_cons_succ]
                  refine take_op 6 9 (.int .i64 0) rfl rfl (by kernel_rfl) (fun _ _ _ h => h) (by rfl) ⟨_, hS⟩ (fun w' hS' => ?hv83) ?hh84
                  case hv83 => (go_simp; (try with_reducible rfl); (try omega))
                  simp only [Act.put, List.setIfInBounds_toArray, List.set_cons_zero, List.set_cons_succ]
                  have hS9 := hS.row3 cR
                  obtain ⟨TT, hTT⟩ := hS.out.1.2.2.1
                  refine only_op 7 rfl (by kernel_rfl) (by rfl) (wp_store_row 31 (.tmp 11) (.tmp 69) rfl g11 cR rfl rfl TT _ hTT (by rw [info_rec, HR6.out]) (by rw [HR6.out]; rfl) HR1.out ⟨⟨_, hS9⟩, ?_⟩)
                  (try simp only [put_none])
                  refine wpAnyH_done (by kernel_rfl) ?_ _
                  go_wp2_with fail
                  go_meet
                  exact ⟨rfl, hS9⟩
              case rest =>
                obtain ⟨rfl, hx⟩ := hcut
                have F2 := Lib.hid hx
                clear hx F1 HZZ hz0
                go_upto_region 16 with fail
                obtain ⟨zz, hzz⟩ : ∃ zz, atOf a2 rs.length = zz := ⟨_, rfl⟩
                rw [hzz] at HRS1
                have HZZ := Lib.hid hzz
                have hz0 : -9223372036854775808 ≤ zz ∧ zz ≤ 9223372036854775807 := by rw [← hzz]; unfold atOf; split <;> omega
                clear hzz
                have st0 := F2.out
                clear F2
                haveI : Nonempty (In (FX V g5 g7 g11 g12 cR cS cR #[.int .i64 0, .int .i64 0, .string ⟨#[]⟩, .string ⟨#[]⟩, .int .i64 0, .bool false])) := ⟨⟨_, st0⟩⟩
                have k1 := fun u : In (FX V g5 g7 g11 g12 cR cS cR #[.int .i64 0, .int .i64 0, .string ⟨#[]⟩, .string ⟨#[]⟩, .int .i64 0, .bool false]) => HD1.out u.w u.h.bel
                have k3 := fun u : In (FX V g5 g7 g11 g12 cR cS cR #[.int .i64 0, .int .i64 0, .string ⟨#[]⟩, .string ⟨#[]⟩, .int .i64 0, .bool false]) => HD3.out u.w u.h.bel
                have kn := fun u : In (FX V g5 g7 g11 g12 cR cS cR #[.int .i64 0, .int .i64 0, .string ⟨#[]⟩, .string ⟨#[]⟩, .int .i64 0, .bool false]) => HN.out u.w u.h.bel
                refine region_in (S := FX V g5 g7 g11 g12 cR cS cR #[.int .i64 0, .int .i64 0, .string ⟨#[]⟩, .string ⟨#[]⟩, .int .i64 0, .bool false]) (by kernel_rfl) (by kernel_rfl) (st0.drewN 1) ?_
                repeat (go_big_quiet_step (first | (go_at_call 9; exact in_call ((HRS1.out _ (HXB.out.trans ((FX.bel (In.h _)).mono HXB.out.size))).mono fun _ _ h => ⟨h.1, h.2 ▸ In.h _⟩))))
                refine wpQuiet_nil ?_
                rintro w13 ⟨⟨w7, st7⟩, rfl⟩
                have F3 := Lib.hid st7
                clear this st0 st7 k1 k3 kn HRS1
                go_upto_if 80 with fail
                go_cut [10] from 81 to 86 (fun s9 wx => s9 = .int .i64 E2 ∧ FX V g5 g7 g11 g12 cR cS cR cS wx)
                case first =>
                  rcases HW2.out with ⟨h, _⟩ | ⟨_, ha, rfl, rfl⟩ | ⟨_, rfl, ha, hca⟩
                  · cases h
                  · obtain rfl : zz = -1 := by rw [← HZZ.out, ha]; exact if_neg (Nat.lt_irrefl _)
                    go_wp2_with fail
                    go_meet
                    exact ⟨rfl, F3.out⟩
                  · obtain rfl : zz = (a2 : Int) := by rw [← HZZ.out]; exact if_pos ha
                    obtain ⟨b0, o0, rfl, hb0, hc⟩ := HA.out.some_ (by omega)
                    have hra := hc a2 ha
                    have HLD := Lib.hid (fun W (hb : Below V.heap.size V W) => show (loadVar 31 ⟨b0, o0 + a2 * 6, none⟩).run Try.prog W = .ok (.agg cS) W from by
                      have := load_at (hra.keep (w' := W) (fun i => (HXB.out.trans (hb.mono HXB.out.size)).cell (p := ⟨b0, i, none⟩) hb0))
                      rw [hca] at this
                      exact this)
                    have ha1 : (a2 : Int) < (rs.length : Int) := by omega
                    have ha2 : decide ((0 : Int) ≤ (a2 : Int)) = true := decide_eq_true (by omega)
                    clear hc hra hca
                    go_upto_region 18 with fail
                    have hS0 := F3.out.drewN 1
                    clear F3
                    refine wp_region_held_drew (S := fun W => ∃ y, FX V g5 g7 g11 g12 cR cS cR y W) (by kernel_rfl) ⟨_, hS0⟩ (fun hS1 => ?_)
                    have hS : FX V g5 g7 g11 g12 cR cS cR #[.int .i64 0, .int .i64 0, .string ⟨#[]⟩, .string ⟨#[]⟩, .int .i64 0, .bool false] w13.drew := hS0
                    clear hS0 hS1
                    generalize w13.drew = Wd at hS ⊢
                    refine take_op 0 81 ?v85 rfl rfl (by kernel_rfl) (fun _ _ _ h => h) (by rfl) ⟨_, hS⟩ (fun w' hS' => ?hv86) ?hh87
                    case hv86 => (go_simp; (try with_reducible rfl); (try omega))
                    simp only [Act.put, List.setIfInBounds_toArray, List.set_cons_zero, List.set_cons_succ]
                    refine take_op 1 82 ?v88 rfl rfl (by kernel_rfl) (fun _ _ _ h => h) (by rfl) ⟨_, hS⟩ (fun w' hS' => ?hv89) ?hh90
                    case hv89 => (go_simp; (try with_reducible rfl); (try omega))
                    simp only [Act.put, List.setIfInBounds_toArray, List.set_cons_zero, List.set_cons_succ]
                    refine take_op 2 83 (.slice (some ⟨b0, o0, none⟩) rs.length c) rfl rfl (by kernel_rfl) (fun _ _ _ h => h) (by rfl) ⟨_, hS⟩ (fun w' hS' => ?hv91) ?hh92
                    case hv91 => (obtain ⟨y, hS'⟩ := hS'; have d1 := HD1.out w' hS'.bel; go_simp; (try with_reducible rfl); (try omega))
                    simp only [Act.put, List.setIfInBounds_toArray, List.set_cons_zero, List.set_cons_succ]
                    refine take_op 3 84 ?v93 rfl rfl (by kernel_rfl) (fun _ _ _ h => h) (by rfl) ⟨_, hS⟩ (fun w' hS' => ?hv94) ?hh95
                    case hv94 => (go_simp; (try with_reducible rfl); (try omega))
                    simp only [Act.put, List.setIfInBounds_toArray, List.set_cons_zero, List.set_cons_succ]
                    refine take_op 4 85 (.pointer (some ⟨b0, o0 + a2 * 6, none⟩)) rfl rfl (by kernel_rfl) (fun _ _ _ h => h) (by rfl) ⟨_, hS⟩ (fun w' hS' => ?hv96) ?hh97
                    case hv96 => (go_simp; (try with_reducible rfl); (try omega))
                    simp only [Act.put, List.setIfInBounds_toArray, List.set_cons_zero, List.set_cons_succ]
                    refine take_load 5 86 31 (.tmp 85) b0 (o0 + a2 * 6) (.agg cS) rfl rfl (by kernel_rfl) (fun _ _ _ h => h) (by rfl) ⟨_, hS⟩ rfl rfl (fun w' hS' => by obtain ⟨y, hS'⟩ := hS'; exact HLD.out w' hS'.bel) ?hh98
                    simp only [Act.put, List.setIfInBounds_toArray, List.set_cons_zero, List.set_cons_succ]
                    refine take_op 6 10 (.int .i64 0) rfl rfl (by kernel_rfl) (fun _ _ _ h => h) (by rfl) ⟨_, hS⟩ (fun w' hS' => ?hv99) ?hh100
                    case hv99 => (go_simp; (try with_reducible rfl); (try omega))
                    simp only [Act.put, List.setIfInBounds_toArray, List.set_cons_zero, List.set_cons_succ]
                    have hS9 := hS.row4 cS
                    obtain ⟨TT, hTT⟩ := hS.out.1.2.2.2
                    refine only_op 7 rfl (by kernel_rfl) (by rfl) (wp_store_row 31 (.tmp 12) (.tmp 86) rfl g12 cS rfl rfl TT _ hTT (by rw [info_rec, HS6.out]) (by rw [HS6.out]; rfl) HS11.out ⟨⟨_, hS9⟩, ?_⟩)
                    (try simp only [put_none])
                    refine wpAnyH_done (by kernel_rfl) ?_ _
                    go_wp2_with fail
                    go_meet
                    exact ⟨rfl, hS9⟩
                case rest =>
                  obtain ⟨rfl, hx⟩ := hcut
                  have F9 := Lib.hid hx
                  clear hx F3 HZZ hz0
                  have hl5 := load_blk F9.out.out.1.1 HR6.out
                  have hl7 := load_blk F9.out.out.1.2.1 HS6.out
                  have hl11 := load_blk F9.out.out.1.2.2.1 HR6.out
                  have hl12 := load_blk F9.out.out.1.2.2.2 HS6.out
                  go_wp2_with (first | (refine wpList_load_any (by rfl) 31 (.tmp 5) rfl g5 0 rfl _ hl5 ?_; simp only [Act.put]) | (refine wpList_load_any (by rfl) 31 (.tmp 7) rfl g7 0 rfl _ hl7 ?_; simp only [Act.put]) | (refine wpList_load_any (by rfl) 31 (.tmp 11) rfl g11 0 rfl _ hl11 ?_; simp only [Act.put]) | (refine wpList_load_any (by rfl) 31 (.tmp 12) rfl g12 0 rfl _ hl12 ?_; simp only [Act.put]) | (go_at_call 10; refine (num_is _ _).mono ?_; rintro e w' ⟨rfl, rfl⟩))
                  go_roundw
                  case rel => exact ⟨k + 1, h2, h1, by go_num, RV.out.below F9.out.bel⟩
                  case measure => simp [RowKit.intOf]; omega
      · go_wp2_with (go_at_call 11; refine (HWK.out _).mono ?_; rintro e w9 ⟨rfl, hb9⟩)
        all_goals (go_ret; exact ⟨rfl, R.out.out.2.trans (hb9.mono R.out.out.2.size)⟩)
end Go.Proofs.Ythhpmhibkbndhaa
/- For every script: package seg and the document's own answer find the same record of any segment, from any offset and from any time on, or none, or refuse it. No condition. -/
namespace Go.Proofs.Ythhpmhibkbndhaa.segFinds
open Go.ChangeShapes Go.WideShapes Go.ChangeAt Go.RowKit Rcd

set_option maxRecDepth 100000 in
theorem lifted (os : Os) (started : os.Started) (H : Type) (enc : TypeId × Value → H) :
    ReturnsInHanded {} Try.checked os 3 .any (Rows.segFindsSpec.pre6 enc Try.prog Try.f3 Rows.segFindsRow.domain false) (Rows.segFindsSpec.post enc Try.prog Try.f3 false true false false) := by
  refine returnsInHanded_of_change_sized (C := Try.checked) ownKnob_none started (by kernel_rfl) Try.func3
    (ChangeSpec.witness6 (enc := enc) (C := Try.checked) false ⟨#[], #[.agg #[.int .i64 0, .slice none 0 0, .slice none 0 0, .slice none 0 0, .string ⟨#[]⟩]], []⟩ 8 (by kernel_rfl) (by kernel_rfl) (by kernel_rfl) (by kernel_rfl)) ?_
  intro W base args ds gs before hval0 hW _ hsz0 _
  have hval : ∀ (j : Nat) t v, Try.f3.params[j]? = some t → args[j]? = some v → Value.okWide Try.prog W .any base t v := hval0
  have hW' := hW
  obtain ⟨p, q, hA0, hV, rfl, _, _⟩ := hW
  have hA : DataW.TrodAll enc Try.prog W 0 (fun _ => true) true Try.f3.params.toList args.toList ds p := hA0
  rw [Try.params3] at hA hval
  obtain ⟨v0, d0, rfl, rfl, h0⟩ := trodAll_one hA
  obtain ⟨rfl, rfl⟩ := trodVars_none hV
  have lt0 : ∀ x ∈ p, x.block < W.heap.size := by obtain ⟨m, hm⟩ := h0; exact DataW.trod_lt m _ _ _ hm
  have near : Near 27 d0 := fun n hn => by
    have := List.all_eq_true.1 hsz0 n (DataW.weights_mem_each (j := 0) (t := 27) (d := d0) (by rw [Try.params3]; rfl) rfl n hn)
    simpa using this
  obtain ⟨b, rs, L, ns, A, B, D, c, cl, cn, s, rfl, hs⟩ := script_all (hval 0 27 v0 rfl rfl) near h0
  clear hA0 hval0
  refine (SegFinds_any b rs L ns A B D c cl cn s W (by have := hs.lA; omega) (by have := hs.lB; omega) (by have := hs.lD; omega) hs.cap hs.hA hs.hB hs.hD).mono fun e W' ⟨he, bel⟩ => ?_
  subst he
  exact ⟨_, rfl, _, _, _, [], _, [], hW', trodAll_mk1 (shut_bool Try.underlying4 _), trodAll_mk1 (Below.trod laidOut_true (by kernel_rfl) (of_decide_eq_true (by kernel_rfl)) h0 bel lt0), rfl, bel.frame _, fun h => by cases h⟩

theorem over : Rows.segFindsRow.holds Try.pinned (OpenSpec.ofChange Rows.segFindsSpec) :=
  OpenClaim.holds_of_wide 3 Try.f3 rfl rfl rfl rfl rfl rfl rfl ⟨rfl, rfl, rfl, rfl, rfl⟩ rfl rfl rfl rfl rfl (by kernel_rfl) Try.func3 (by kernel_rfl)
    (of_decide_eq_true (by kernel_rfl)) (by unfold Func.isWrapper; rw [if_neg (of_decide_eq_false (by kernel_rfl))]; exact ⟨rfl, rfl⟩)
    (fun os started H enc _ => lifted os started H enc)

theorem proved : Rows.SegFindsSaid := over
#print axioms proved
end Go.Proofs.Ythhpmhibkbndhaa.segFinds
