/- Texts of the proof, part 5: SgWeight, SgHeavyOf, RcWithin, IxLooksOf, IxLooksNo. -/
import Derived.Test.YtijpieaanlnibaaChecked
import Derived.Deep.CutRange
import Derived.Test.YtijpieaanlnibaaV04
/- Records weighed, to the number. -/
namespace Go.Proofs.Ytijpieaanlnibaa
open Go.RowKit Go.Lib Rcd

/-- The weight of records, from z on. -/
def wgo : List Rc → Int → Int
  | [], z => z
  | r :: t, z => if z < 1048576 then wgo t (wrap64 (wrap64 (z + (r.k.length : Int)) + (r.b.length : Int))) else z
def weightZ (l : List Rc) : Int := wgo l (l.length : Int)
theorem wgo_yes {r : Rc} {t : List Rc} {z : Int} (h : z < 1048576) : wgo (r :: t) z = wgo t (wrap64 (wrap64 (z + (r.k.length : Int)) + (r.b.length : Int))) := by rw [wgo, if_pos h]
theorem wgo_no {r : Rc} {t : List Rc} {z : Int} (h : ¬ z < 1048576) : wgo (r :: t) z = z := by rw [wgo, if_neg h]

set_option maxRecDepth 100000 in
set_option maxHeartbeats 4000000 in
/-- fairwaylaw0.RecsWeight. -/
theorem WeightZ_is (l : List Rc) (A : Option Addr) (c B : Nat) (Z : Int) (w : World) (hm : l.length ≤ 9223372036854775807) (h : RecsAt w B A l) (hZ : weightZ l = Z) :
    Calls Try.prog 21 #[.slice A l.length c] w fun e w' => e = .returned (.int .i64 Z) ∧ Below w.heap.size w w' := by
  have H := Lib.hid h
  have HZ := Lib.hid hZ
  clear h hZ
  go_enter Try.func21, Try.ntmps21
  go_wp2_with fail
  go_loopw [3, 4] (fun v i wr => ∃ (k n : Nat) (z : Int), k ≤ l.length ∧ v = .int .i64 z ∧ i = .int .i64 (k : Int) ∧ wr = w.drewN n ∧ wgo (l.drop k) z = Z) (fun _ i _ => l.length - (RowKit.intOf i).toNat)
  case atStart => exact ⟨0, 0, _, Nat.zero_le _, rfl, rfl, rfl, HZ.out⟩
  case round =>
    obtain ⟨k, n, z, hk, rfl, rfl, rfl, hz⟩ := hrel
    have HG := Lib.hid hz
    clear hz
    by_cases hlt : k < l.length
    · have hdr := List.drop_eq_getElem_cons hlt
      by_cases hz : z < 1048576
      · have HS := Lib.hid (show wgo (l.drop (k + 1)) (wrap64 (wrap64 (z + ((str l[k].k).size : Int)) + ((str l[k].b).size : Int))) = Z by
          rw [str_size, str_size, ← HG.out, hdr, wgo_yes hz])
        obtain ⟨b, o, rfl, _, hc⟩ := H.out.some_ (by omega)
        have h1 := hc k hlt
        clear hc H HG hdr
        generalize l[k] = r at h1 HS
        obtain ⟨x, t, ks, bs, q, g⟩ := r
        obtain ⟨c0, c1, c2, c3, c4, c5⟩ := h1
        dsimp only at HS c2 c3
        generalize str ks = kz at c2 HS
        generalize str bs = bz at c3 HS
        have hkI : (k : Int) < (l.length : Int) := by omega
        have hd1 : decide ((k : Int) < (l.length : Int)) = true := decide_eq_true hkI
        have hd2 : decide (k < l.length) = true := decide_eq_true hlt
        have hd3 : decide (z < 1048576) = true := decide_eq_true hz
        go_wp2
        go_quiet (fail)
        go_wp2
        go_roundw
        case rel => exact ⟨k + 1, _, _, hlt, rfl, by go_num, rfl, HS.out⟩
        case measure => simp [RowKit.intOf]; omega
      · have HF := Lib.hid (show z = Z by rw [← HG.out, hdr, wgo_no hz])
        go_wp2
        all_goals (go_ret; exact ⟨ret_int HF.out, below_drewN (Below.refl _ _) n⟩)
    · have HF := Lib.hid (show z = Z by
        have := HG.out
        rw [List.drop_of_length_le (by omega)] at this
        exact this)
      go_wp2
      all_goals (go_ret; exact ⟨ret_int HF.out, below_drewN (Below.refl _ _) n⟩)
end Go.Proofs.Ytijpieaanlnibaa
/- Whether a script is heavy. -/
namespace Go.Proofs.Ytijpieaanlnibaa
open Go.RowKit Go.Lib Rcd

/-- A script's cells. -/
def scarr (b : Int) (A : Option Addr) (n c : Nat) (B : Option Addr) (m cl : Nat) (D : Option Addr) (k cn : Nat) (s : ByteArray) : Array Value := #[.int .i64 b, .slice A n c, .slice B m cl, .slice D k cn, .string s]
theorem info_script : (Try.prog.info? 27).map (·.size) = some 5 := by kernel_rfl
theorem load_script {W : World} {g : Nat} {cs : Array Value} (h : Blk W g cs) (h9 : cs.size = 5) : (loadVar 27 ⟨g, 0, none⟩).run Try.prog W = .ok (.agg cs) W :=
  run_loadVar_mid W g 0 27 cs.toList _ (fun j v hv => by rw [Nat.zero_add, h.cell j]; rw [← hv]; simp) Try.underlying27 rfl (by rw [info_script]; simp [h9])

set_option maxRecDepth 100000 in
set_option maxHeartbeats 8000000 in
/-- Heavy: a script that is not has few bytes. -/
theorem Heavy_is (b : Int) (rs L : List Rc) (A B D : Option Addr) (c cl k cn : Nat) (s : ByteArray) (w : World) (hm : rs.length ≤ 9223372036854775807) (hm2 : L.length ≤ 9223372036854775807) (hA : RecsAt w w.heap.size A rs) (hB : RecsAt w w.heap.size B L) :
    Calls Try.prog 6 #[.agg #[.int .i64 b, .slice A rs.length c, .slice B L.length cl, .slice D k cn, .string s]] w fun e w' => ∃ v, e = .returned (.bool v) ∧ (v = false → s.size ≤ 8000) ∧ Below w.heap.size w w' := by
  obtain ⟨Z1, hZ1⟩ : ∃ Z, weightZ rs = Z := ⟨_, rfl⟩
  obtain ⟨Z2, hZ2⟩ : ∃ Z, weightZ L = Z := ⟨_, rfl⟩
  have H1 := Lib.hid (fun W (hb : Below w.heap.size w W) => WeightZ_is rs A c w.heap.size Z1 W hm (hA.below hb) hZ1)
  have H2 := Lib.hid (fun W (hb : Below w.heap.size w W) => WeightZ_is L B cl w.heap.size Z2 W hm2 (hB.below hb) hZ2)
  have R0 := Lib.hid (RBox.new w 27 (scarr b A rs.length c B L.length cl D k cn s))
  obtain ⟨p, hp⟩ : ∃ p, w.heap.size = p := ⟨_, rfl⟩
  obtain ⟨W0, hW⟩ : ∃ W0, w.alloc (.cells (scarr b A rs.length c B L.length cl D k cn s) 27) = W0 := ⟨_, rfl⟩
  rw [hW, hp] at R0
  unfold scarr at R0 hW
  have HW := Lib.hid hW
  have HP := Lib.hid hp
  clear hW hp hZ1 hZ2 hA hB
  go_enter Try.func6, Try.ntmps6
  go_upto_region 1 with fail
  rw [HW.out, HP.out]
  clear HW HP
  obtain ⟨v0, hv0⟩ : ∃ v, v = decide (8000 < wrap64 (Z1 + Z2)) := ⟨_, rfl⟩
  obtain ⟨v1, hv1⟩ : ∃ v, v = decide (8000 < s.size) := ⟨_, rfl⟩
  have HV1 := Lib.hid hv1
  have f0 := hv0.symm
  have f1 := hv1.symm
  have f2 : decide ((8000 : Int) < (s.size : Int)) = v1 := by rw [hv1]; exact decide_eq_decide.2 (by omega)
  have st0 := R0.out
  clear hv0 hv1 R0
  haveI : Nonempty (In (RBox w p #[.int .i64 b, .slice A rs.length c, .slice B L.length cl, .slice D k cn, .string s])) := ⟨⟨_, st0⟩⟩
  have k1 := fun u : In (RBox w p #[.int .i64 b, .slice A rs.length c, .slice B L.length cl, .slice D k cn, .string s]) => (show u.w.cell? ⟨p, 1, none⟩ = some (.slice A rs.length c) from u.h.cell 1)
  have k2 := fun u : In (RBox w p #[.int .i64 b, .slice A rs.length c, .slice B L.length cl, .slice D k cn, .string s]) => (show u.w.cell? ⟨p, 2, none⟩ = some (.slice B L.length cl) from u.h.cell 2)
  have k3 := fun u : In (RBox w p #[.int .i64 b, .slice A rs.length c, .slice B L.length cl, .slice D k cn, .string s]) => (show u.w.cell? ⟨p, 3, none⟩ = some (.slice D k cn) from u.h.cell 3)
  have k4 := fun u : In (RBox w p #[.int .i64 b, .slice A rs.length c, .slice B L.length cl, .slice D k cn, .string s]) => (show u.w.cell? ⟨p, 4, none⟩ = some (.string s) from u.h.cell 4)
  cases v0 with
  | true =>
    refine region_in (S := RBox w p #[.int .i64 b, .slice A rs.length c, .slice B L.length cl, .slice D k cn, .string s]) (by kernel_rfl) (by kernel_rfl) (st0.drewN 1) ?_
    iterate 3 (go_big_quiet_step (fail))
    go_big_quiet_step ((go_at_call 21; exact in_call ((H1.out _ (RBox.out (In.h _)).2).mono fun _ _ h => ⟨h.1, RBox.below (In.h _) h.2⟩)))
    iterate 2 (go_big_quiet_step (fail))
    go_big_quiet_step ((go_at_call 21; exact in_call ((H2.out _ (RBox.out (In.h _)).2).mono fun _ _ h => ⟨h.1, RBox.below (In.h _) h.2⟩)))
    repeat (go_big_quiet_step (fail))
    refine wpQuiet_nil ?_
    rintro _ ⟨⟨w7, st7⟩, rfl⟩
    have S7 := Lib.hid st7
    clear this st0 st7 k1 k2 k3 k4 H1 H2
    go_wp2_with fail
    go_ret
    exact ⟨_, rfl, (fun e => by cases e), S7.out.out.2⟩
  | false =>
    cases v1 with
    | true =>
      refine region_in (S := RBox w p #[.int .i64 b, .slice A rs.length c, .slice B L.length cl, .slice D k cn, .string s]) (by kernel_rfl) (by kernel_rfl) (st0.drewN 1) ?_
      iterate 3 (go_big_quiet_step (fail))
      go_big_quiet_step ((go_at_call 21; exact in_call ((H1.out _ (RBox.out (In.h _)).2).mono fun _ _ h => ⟨h.1, RBox.below (In.h _) h.2⟩)))
      iterate 2 (go_big_quiet_step (fail))
      go_big_quiet_step ((go_at_call 21; exact in_call ((H2.out _ (RBox.out (In.h _)).2).mono fun _ _ h => ⟨h.1, RBox.below (In.h _) h.2⟩)))
      repeat (go_big_quiet_step (fail))
      refine wpQuiet_nil ?_
      rintro _ ⟨⟨w7, st7⟩, rfl⟩
      have S7 := Lib.hid st7
      clear this st0 st7 k1 k2 k3 k4 H1 H2
      go_wp2_with fail
      go_ret
      exact ⟨_, rfl, (fun e => by cases e), S7.out.out.2⟩
    | false =>
      have hs : s.size ≤ 8000 := by have := of_decide_eq_false HV1.out.symm; omega
      refine region_in (S := RBox w p #[.int .i64 b, .slice A rs.length c, .slice B L.length cl, .slice D k cn, .string s]) (by kernel_rfl) (by kernel_rfl) (st0.drewN 1) ?_
      iterate 3 (go_big_quiet_step (fail))
      go_big_quiet_step ((go_at_call 21; exact in_call ((H1.out _ (RBox.out (In.h _)).2).mono fun _ _ h => ⟨h.1, RBox.below (In.h _) h.2⟩)))
      iterate 2 (go_big_quiet_step (fail))
      go_big_quiet_step ((go_at_call 21; exact in_call ((H2.out _ (RBox.out (In.h _)).2).mono fun _ _ h => ⟨h.1, RBox.below (In.h _) h.2⟩)))
      repeat (go_big_quiet_step (fail))
      refine wpQuiet_nil ?_
      rintro _ ⟨⟨w7, st7⟩, rfl⟩
      have S7 := Lib.hid st7
      clear this st0 st7 k1 k2 k3 k4 H1 H2
      go_wp2_with fail
      go_ret
      exact ⟨_, rfl, (fun _ => hs), S7.out.out.2⟩
end Go.Proofs.Ytijpieaanlnibaa
/- The statements' Within: a number brought within bounds. -/
namespace Go.Proofs.Ytijpieaanlnibaa
open Go.RowKit Go.Lib

/-- The bound of a 64-bit number without a sign. -/
def big64 : Int := 18446744073709551616
/-- Where a number lies among so many. -/
def within (n m : Int) : Int := n % big64 % m
theorem within_lt {n m : Int} (h : 0 < m) : 0 ≤ within n m ∧ within n m < m := ⟨Int.emod_nonneg _ (by omega), Int.emod_lt_of_pos _ h⟩
set_option maxHeartbeats 1000000 in
theorem Within_any (n m : Int) (w : World) (h2 : 0 < m) (h3 : m ≤ 9223372036854775807) :
    Calls Try.prog 20 #[.int .i64 n, .int .i64 m] w fun e w' => e = .returned (.int .i64 (within n m)) ∧ w = w' := by
  go_enter Try.func20, Try.ntmps20
  go_wp2
  go_ret
  refine ⟨ret_int ?_, rfl⟩
  have e : IntKind.u64.wrap n = n % big64 := by unfold IntKind.wrap big64; simp [IntKind.bits, IntKind.signed]
  rw [e, Int.tmod_eq_emod_of_nonneg (Int.emod_nonneg _ (by decide))]
  have hw := within_lt (n := n) h2
  unfold within at hw ⊢
  exact IntWalk.wrap64_in _ ⟨by omega, by omega⟩
theorem within_nat (n m : Int) (h : 0 < m) : ∃ k : Nat, within n m = (k : Int) ∧ (k : Int) < m := by
  obtain ⟨h0, h1⟩ := within_lt (n := n) h
  obtain ⟨k, hk⟩ := Int.eq_ofNat_of_zero_le h0
  exact ⟨k, hk, by omega⟩
theorem Within_is (n m : Int) (k : Nat) (w : World) (h : 0 < m) (h3 : m ≤ 9223372036854775807) (hk : within n m = (k : Int)) :
    Calls Try.prog 20 #[.int .i64 n, .int .i64 m] w fun e w' => e = .returned (.int .i64 (k : Int)) ∧ w = w' := by
  rw [← hk]
  exact Within_any n m w h h3

end Go.Proofs.Ytijpieaanlnibaa
/- A segment at the head of a script, read whole. -/
namespace Go.Proofs.Ytijpieaanlnibaa.Mkd
open Go.RowKit Go.Lib Rcd

theorem loadSeg {w W : World} {p : Nat} {b : Int} {v : Value} {cs : Array Value} (h : RBox w p cs W) (h0 : cs[0]? = some (.int .i64 b)) (h1 : cs[1]? = some v) (ho : v.oneCell' = true) : (loadVar 24 ⟨p, 0, none⟩).run Try.prog W = .ok (.agg #[.int .i64 b, v]) W :=
  load_seg_at (h.cell 0 |>.trans h0) (h.cell 1 |>.trans h1) ho
end Go.Proofs.Ytijpieaanlnibaa.Mkd
/- IndexLooks, of a segment that may not be. -/
namespace Go.Proofs.Ytijpieaanlnibaa.Mkd
open Go.RowKit Go.Lib Rcd

set_option maxRecDepth 100000 in
set_option maxHeartbeats 64000000 in
theorem IndexLooks_no (b : Int) (rs L : List Rc) (ns : List Int) (A B D : Option Addr) (c cl cn : Nat) (x : ByteArray) (w : World) (hl1 : rs.length ≤ 9223372036854775807) (hl2 : L.length ≤ 9223372036854775807) (hl3 : ns.length ≤ 9223372036854775807) (hcap : rs.length ≤ c) (hA : RecsAt w w.heap.size A rs) (hB : RecsAt w w.heap.size B L) (hD : Nums w w.heap.size .i64 D ns) (hM : segB b rs = false) :
    Calls Try.prog 5 #[.agg #[.int .i64 b, .slice A rs.length c, .slice B L.length cl, .slice D ns.length cn, .string x]] w fun e w' => e = .returned (.bool true) ∧ Below w.heap.size w w' := by
  obtain ⟨i0, hi, hz0, hz1, hz2⟩ := info_parts info_mmore
  have HV := Lib.hid (fun W (hb : Below w.heap.size w W) => Heavy_is b rs L A B D c cl ns.length cn x W hl1 hl2 (hA.on hb) (hB.on hb))
  have HSEG := Lib.hid (fun W (hb : Below w.heap.size w W) => RSeg_is b rs rs.length A c w.heap.size false W rfl hl1 hb.size (hA.below hb) hM)
  have HWK := Lib.hid (fun W => wakes_any W)
  have HWI := Lib.hid (fun W => Within_is 3 2 1 W (by decide) (by decide) (by decide))
  have HLR := Lib.hid (fun n E W (hb : Below w.heap.size w W) => Look_refused n b rs rs.length A c w.heap.size E W rfl hl1 hcap hb.size (hA.below hb) hM)
  have HD := Lib.hid hD
  have R0 := Lib.hid (RBox.new w 27 #[.int .i64 b, .slice A rs.length c, .slice B L.length cl, .slice D ns.length cn, .string x])
  obtain ⟨p, hp⟩ : ∃ p, w.heap.size = p := ⟨_, rfl⟩
  obtain ⟨W0, hW⟩ : ∃ W0, w.alloc (.cells #[.int .i64 b, .slice A rs.length c, .slice B L.length cl, .slice D ns.length cn, .string x] 27) = W0 := ⟨_, rfl⟩
  rw [hW, hp] at R0
  have HW := Lib.hid hW
  have HP := Lib.hid hp
  clear hW hp hA hB hD hM
  go_enter Try.func5, Try.ntmps5
  go_upto_region 1 with fail
  rw [HW.out, HP.out]
  clear HW
  have hld := load_script R0.out.out.1 rfl
  go_wp2_with (refine wpList_load_any (by rfl) 27 (.tmp 1) rfl p 0 rfl _ hld ?_; simp only [Act.put])
  refine (HV.out _ R0.out.out.2).mono ?_
  rintro e w1 ⟨v, rfl, _, hb1⟩
  have R1 := Lib.hid (R0.out.below hb1)
  clear R0 hb1 hld HV
  cases v with
  | true =>
    go_wp2_with fail
    go_ret
    exact ⟨rfl, R1.out.out.2⟩
  | false =>
    have hld := loadSeg R1.out rfl rfl rfl
    go_wp2_with (refine wpList_load_any (by rfl) 24 (.tmp 17) rfl p 0 rfl _ hld ?_; simp only [Act.put])
    refine (HSEG.out _ R1.out.out.2).mono ?_
    rintro e w2 ⟨rfl, hb2⟩
    have R2 := Lib.hid (R1.out.below hb2)
    clear R1 hb2 hld HSEG
    obtain ⟨V, hV⟩ : ∃ V, V = w2 := ⟨_, rfl⟩
    subst hV
    have RV := R2
    clear R2
    have HMV := Lib.hid (fun W (_ : Below V.heap.size V W) => (MarksAt.none_ : MarksAt W W.heap.size none []))
    go_wp2_with fail
    go_loopw [5] (fun i wr => ∃ k : Nat, k ≤ 20 ∧ k ≤ ns.length ∧ i = .int .i64 (k : Int) ∧ Below V.heap.size V wr) (fun i _ => 20 - (RowKit.intOf i).toNat)
    case atStart => exact ⟨0, by omega, Nat.zero_le _, rfl, Below.refl _ _⟩
    case round =>
      obtain ⟨k, hk20, hkn, rfl, hbel⟩ := hrel
      have HBV := Lib.hid hbel
      clear hbel
      have d3 : wr.cell? ⟨p, 3, none⟩ = some (.slice D ns.length cn) := (RV.out.below HBV.out).cell 3
      by_cases hgo : k < ns.length ∧ k < 20
      · obtain ⟨h1, h2⟩ := hgo
        have e1 : (k : Int) < (ns.length : Int) := by omega
        have e2 : (k : Int) < 20 := by omega
        obtain ⟨ad, rfl, hab, hcd⟩ := (HD.out.below (Below.step RV.out.out.2 HBV.out)).some_ (by omega)
        have hnn := hcd k h1
        obtain ⟨n, hn⟩ : ∃ n, ns.getD k 0 = n := ⟨_, rfl⟩
        rw [hn] at hnn
        obtain ⟨V3, hV3⟩ : ∃ V3, V3 = wr := ⟨_, rfl⟩
        subst hV3
        have hbV : ad.block < V3.heap.size := Nat.lt_of_lt_of_le hab (Below.step RV.out.out.2 HBV.out).size
        have hpV : p < V3.heap.size := (RV.out.below HBV.out).out.1.lt
        have HN3 := Lib.hid (fun W (hb : Below V3.heap.size V3 W) => (hb.cell (p := ad.add k) (by rw [add_block]; exact hbV)).trans hnn)
        have HD33 := Lib.hid (fun W (hb : Below V3.heap.size V3 W) => (hb.cell (p := ⟨p, 3, none⟩) hpV).trans d3)
        have HSG := Lib.hid (fun W (hb : Below V3.heap.size V3 W) => loadSeg (RV.out.below (Below.step HBV.out hb)) (b := b) (v := .slice A rs.length c) rfl rfl rfl)
        have HWB := Lib.hid (fun W (hb : Below V3.heap.size V3 W) => Below.step RV.out.out.2 (Below.step HBV.out hb))
        have HMV3 := Lib.hid (fun W (hb : Below V3.heap.size V3 W) => HMV.out W (Below.step HBV.out hb))
        clear hcd hn hnn hbV hpV
        obtain ⟨cR, hcR⟩ : ∃ cR : Array Value, cR = #[.int .i64 0, .int .i64 0, .string ⟨#[]⟩, .string ⟨#[]⟩, .int .i64 0, .bool false] := ⟨_, rfl⟩
        obtain ⟨P, hP⟩ : ∃ P : Int, P = 0 := ⟨_, rfl⟩
        obtain ⟨E, hE⟩ : ∃ E : Int, E = 1 := ⟨_, rfl⟩
        have HLC := Lib.hid (fun W (hb : Below V3.heap.size V3 W) => show Calls Try.prog 18 #[.agg #[.int .i64 b, .slice A rs.length c], .slice none 0 0, .int .i64 n] W (fun e w' => e = .returned (.tuple #[.agg cR, .int .i64 P, .int .i64 E]) ∧ Below W.heap.size W w') from by
          rw [hcR, hP, hE]
          exact HLR.out n _ W (HWB.out W hb))
        have HR6 : Hid (cR.size = 6) := by show _ = _; rw [hcR]; rfl
        have HR1 : Hid (cR.all (·.oneCell') = true) := by show _ = _; rw [hcR]; exact one_zero
        have HPE := Lib.hid (And.intro hP hE)
        clear hcR hP hE
        obtain ⟨cZ, hcZ⟩ : ∃ cZ : Array Value, cZ = #[.int .i64 0, .int .i64 0, .string ⟨#[]⟩, .string ⟨#[]⟩, .int .i64 0, .bool false] := ⟨_, rfl⟩
        have HZ6 : Hid (cZ.size = 6) := by show _ = _; rw [hcZ]; rfl
        have HZ1 : Hid (cZ.all (·.oneCell') = true) := by show _ = _; rw [hcZ]; exact one_zero
        have HLK2 := Lib.hid (fun A4 c4 W (hb : Below V3.heap.size V3 W) (_ : MarksAt W W.heap.size A4 ([] ++ [⟨-1, 0⟩])) => show Calls Try.prog 18 #[.agg #[.int .i64 b, .slice A rs.length c], .slice A4 1 c4, .int .i64 n] W (fun e w' => e = .returned (.tuple #[.agg cZ, .int .i64 0, .int .i64 1]) ∧ Below W.heap.size W w') from by
          rw [hcZ]
          exact HLR.out n (.slice A4 1 c4) W (HWB.out W hb))
        clear hcZ
        have HL1 : Hid ((([] : List Mk) ++ [(⟨-1, 0⟩ : Mk)]).length = 1) := rfl
        have HCM := Lib.hid (fun W (hb : Below V3.heap.size V3 W) => CopyMarks_is [] 0 none 0 W.heap.size W rfl (by omega) (Nat.le_refl _) (HMV3.out W hb))
        go_upto_region 10 with fail
        clear d3
        go_cut [6, 7, 8] from 35 to 47 (fun s6 s7 s8 wx => ∃ g, s6 = .pointer (some ⟨g, 0, none⟩) ∧ s7 = .int .i64 P ∧ s8 = .int .i64 E ∧ Hid (Two V3 g cR wx))
        case first =>
          have hS0 := below_drewN (Below.refl V3.heap.size V3) 1
          refine wp_region_held_drew (S := fun W => Below V3.heap.size V3 W) (by kernel_rfl) hS0 (fun hS => ?_)
          clear hS0
          generalize V3.drew = Wd at hS ⊢
          refine take_op 0 36 ?v2_ rfl rfl (by kernel_rfl) (fun _ _ _ h => h) (by rfl) hS (fun w' hS' => ?hv2_) ?hh2_
          case hv2_ => (go_simp; (try with_reducible rfl); (try omega))
          simp only [Act.put, List.setIfInBounds_toArray, List.set_cons_zero, List.set_cons_succ]
          refine take_load 1 37 24 (.tmp 36) p 0 (.agg #[.int .i64 b, .slice A rs.length c]) rfl rfl (by kernel_rfl) (fun _ _ _ h => h) (by rfl) hS rfl rfl (fun w' hS' => HSG.out w' hS') ?hx2_
          simp only [Act.put, List.setIfInBounds_toArray, List.set_cons_zero, List.set_cons_succ]
          refine take_op 2 38 (.slice none 0 0) rfl rfl (by kernel_rfl) (fun _ _ _ h => h) (by rfl) hS (fun w' hS' => ?hv3_) ?hh3_
          case hv3_ => (go_simp; (try with_reducible rfl); (try omega))
          simp only [Act.put, List.setIfInBounds_toArray, List.set_cons_zero, List.set_cons_succ]
          refine take_op 3 39 ?v4_ rfl rfl (by kernel_rfl) (fun _ _ _ h => h) (by rfl) hS (fun w' hS' => ?hv4_) ?hh4_
          case hv4_ => (go_simp; (try with_reducible rfl); (try omega))
          simp only [Act.put, List.setIfInBounds_toArray, List.set_cons_zero, List.set_cons_succ]
          refine take_op 4 40 (.slice (some ad) ns.length cn) rfl rfl (by kernel_rfl) (fun _ _ _ h => h) (by rfl) hS (fun w' hS' => ?hv5_) ?hh5_
          case hv5_ => (have d3 := HD33.out w' hS'; go_simp; (try with_reducible rfl); (try omega))
          simp only [Act.put, List.setIfInBounds_toArray, List.set_cons_zero, List.set_cons_succ]
          refine take_op 5 41 ?v6_ rfl rfl (by kernel_rfl) (fun _ _ _ h => h) (by rfl) hS (fun w' hS' => ?hv6_) ?hh6_
          case hv6_ => (go_simp; (try with_reducible rfl); (try omega))
          simp only [Act.put, List.setIfInBounds_toArray, List.set_cons_zero, List.set_cons_succ]
          refine take_op 6 42 (.pointer (some (ad.add k))) rfl rfl (by kernel_rfl) (fun _ _ _ h => h) (by rfl) hS (fun w' hS' => ?hv7_) ?hh7_
          case hv7_ => (go_simp; (try with_reducible rfl); (try omega))
          simp only [Act.put, List.setIfInBounds_toArray, List.set_cons_zero, List.set_cons_succ]
          refine take_op 7 43 (.int .i64 n) rfl rfl (by kernel_rfl) (fun _ _ _ h => h) (by rfl) hS (fun w' hS' => ?hv8_) ?hh8_
          case hv8_ => (have dn := HN3.out w' hS'; go_simp; (try with_reducible rfl); (try omega))
          simp only [Act.put, List.setIfInBounds_toArray, List.set_cons_zero, List.set_cons_succ]
          refine two_ops 8 13 rfl rfl (by kernel_rfl) (by rfl) (by rfl) (wp_call 44 18 #[.agg #[.int .i64 b, .slice A rs.length c], .slice none 0 0, .int .i64 n] (.tuple #[.agg cR, .int .i64 P, .int .i64 E]) (fun W => Below Wd.heap.size Wd W) rfl (call3_enter rfl rfl rfl rfl cf_look) (HLC.out Wd hS) (fun Wa hb3 => ⟨Below.step hS hb3, ?_⟩)) (wp_made 6 (.pointer (some ⟨Wd.heap.size, 0, none⟩)) rfl (w' := Wd.alloc (.cells #[.int .i64 0, .int .i64 0, .string ⟨#[]⟩, .string ⟨#[]⟩, .int .i64 0, .bool false] 44)) (by go_simp; try rfl) ⟨Below.step hS ((Below.refl _ _).alloc (Nat.le_refl _) _), ?_⟩)
          · simp only [Act.put, List.setIfInBounds_toArray, List.set_cons_zero, List.set_cons_succ]
            have hS := Below.step hS hb3
            clear hb3
            refine take_op 9 35 ?v9_ rfl rfl (by kernel_rfl) (fun _ _ _ h => h) (by rfl) hS (fun w' hS' => ?hv9_) ?hh9_
            case hv9_ => (go_simp; (try with_reducible rfl); (try omega))
            simp only [Act.put, List.setIfInBounds_toArray, List.set_cons_zero, List.set_cons_succ]
            refine take_op 10 45 (.agg cR) rfl rfl (by kernel_rfl) (fun _ _ _ h => h) (by rfl) hS (fun w' hS' => ?hv10_) ?hh10_
            case hv10_ => (go_simp; (try with_reducible rfl); (try omega))
            simp only [Act.put, List.setIfInBounds_toArray, List.set_cons_zero, List.set_cons_succ]
            refine take_op 11 46 (.int .i64 P) rfl rfl (by kernel_rfl) (fun _ _ _ h => h) (by rfl) hS (fun w' hS' => ?hv11_) ?hh11_
            case hv11_ => (go_simp; (try with_reducible rfl); (try omega))
            simp only [Act.put, List.setIfInBounds_toArray, List.set_cons_zero, List.set_cons_succ]
            refine take_op 12 47 (.int .i64 E) rfl rfl (by kernel_rfl) (fun _ _ _ h => h) (by rfl) hS (fun w' hS' => ?hv12_) ?hh12_
            case hv12_ => (go_simp; (try with_reducible rfl); (try omega))
            simp only [Act.put, List.setIfInBounds_toArray, List.set_cons_zero, List.set_cons_succ]
            refine only_op 13 rfl (by kernel_rfl) (by rfl) (wp_made 6 (.pointer (some ⟨Wa.heap.size, 0, none⟩)) rfl (w' := Wa.alloc (.cells #[.int .i64 0, .int .i64 0, .string ⟨#[]⟩, .string ⟨#[]⟩, .int .i64 0, .bool false] 44)) (by go_simp; try rfl) ⟨Below.step hS ((Below.refl _ _).alloc (Nat.le_refl _) _), ?_⟩)
            simp only [Act.put, List.setIfInBounds_toArray, List.set_cons_zero, List.set_cons_succ]
            have hQ := RB.new Wa #[.int .i64 0, .int .i64 0, .string ⟨#[]⟩, .string ⟨#[]⟩, .int .i64 0, .bool false]
            have hbl := (Below.refl Wa.heap.size Wa).alloc (Nat.le_refl _) (.cells #[.int .i64 0, .int .i64 0, .string ⟨#[]⟩, .string ⟨#[]⟩, .int .i64 0, .bool false] 44)
            have hgV : V3.heap.size ≤ Wa.heap.size := hS.size
            have hS := Below.step hS hbl
            generalize Wa.alloc _ = Wb at hQ hS ⊢
            generalize Wa.heap.size = g at hQ hgV ⊢
            clear hbl
            have hS9 := below_row hS hgV cR
            have hx9 : Hid (Two V3 g cR (Wb.setRow g cR)) := Lib.hid (Two.mk ⟨hQ.row cR, hS9, hgV⟩)
            refine only_op 14 rfl (by kernel_rfl) (by rfl) (wp_store_row 44 (.tmp 6) (.tmp 45) rfl g cR rfl rfl _ _ hQ (by rw [info_rec, HR6.out]) (by rw [HR6.out]; rfl) HR1.out ⟨hS9, ?_⟩)
            (try simp only [put_none])
            refine take_op 15 7 (.int .i64 P) rfl rfl (by kernel_rfl) (fun _ _ _ h => h) (by rfl) hS9 (fun w' hS' => ?hv13_) ?hh13_
            case hv13_ => (go_simp; (try with_reducible rfl); (try omega))
            simp only [Act.put, List.setIfInBounds_toArray, List.set_cons_zero, List.set_cons_succ]
            refine take_op 16 8 (.int .i64 E) rfl rfl (by kernel_rfl) (fun _ _ _ h => h) (by rfl) hS9 (fun w' hS' => ?hv14_) ?hh14_
            case hv14_ => (go_simp; (try with_reducible rfl); (try omega))
            simp only [Act.put, List.setIfInBounds_toArray, List.set_cons_zero, List.set_cons_succ]
            refine wpAnyH_done (by kernel_rfl) ?_ _
            go_wp2_with fail
            go_meet
            exact ⟨_, rfl, rfl, rfl, hx9⟩
          · simp only [Act.put, List.setIfInBounds_toArray, List.set_cons_zero, List.set_cons_succ]
            have hQ := RB.new Wd #[.int .i64 0, .int .i64 0, .string ⟨#[]⟩, .string ⟨#[]⟩, .int .i64 0, .bool false]
            have hbl := (Below.refl Wd.heap.size Wd).alloc (Nat.le_refl _) (.cells #[.int .i64 0, .int .i64 0, .string ⟨#[]⟩, .string ⟨#[]⟩, .int .i64 0, .bool false] 44)
            have hgV : V3.heap.size ≤ Wd.heap.size := hS.size
            have hS := Below.step hS hbl
            generalize Wd.alloc _ = Wb at hQ hS ⊢
            generalize Wd.heap.size = g at hQ hgV ⊢
            clear hbl
            refine only_op 8 rfl (by kernel_rfl) (by rfl) (wp_call 44 18 #[.agg #[.int .i64 b, .slice A rs.length c], .slice none 0 0, .int .i64 n] (.tuple #[.agg cR, .int .i64 P, .int .i64 E]) (fun W => Below Wb.heap.size Wb W) rfl (call3_enter rfl rfl rfl rfl cf_look) (HLC.out Wb hS) (fun Wc hb3 => ⟨Below.step hS hb3, ?_⟩))
            simp only [Act.put, List.setIfInBounds_toArray, List.set_cons_zero, List.set_cons_succ]
            have hS := Below.step hS hb3
            have hQ := hQ.below hb3
            clear hb3
            refine take_op 9 35 ?v15_ rfl rfl (by kernel_rfl) (fun _ _ _ h => h) (by rfl) hS (fun w' hS' => ?hv15_) ?hh15_
            case hv15_ => (go_simp; (try with_reducible rfl); (try omega))
            simp only [Act.put, List.setIfInBounds_toArray, List.set_cons_zero, List.set_cons_succ]
            refine take_op 10 45 (.agg cR) rfl rfl (by kernel_rfl) (fun _ _ _ h => h) (by rfl) hS (fun w' hS' => ?hv16_) ?hh16_
            case hv16_ => (go_simp; (try with_reducible rfl); (try omega))
            simp only [Act.put, List.setIfInBounds_toArray, List.set_cons_zero, List.set_cons_succ]
            refine take_op 11 46 (.int .i64 P) rfl rfl (by kernel_rfl) (fun _ _ _ h => h) (by rfl) hS (fun w' hS' => ?hv17_) ?hh17_
            case hv17_ => (go_simp; (try with_reducible rfl); (try omega))
            simp only [Act.put, List.setIfInBounds_toArray, List.set_cons_zero, List.set_cons_succ]
            refine take_op 12 47 (.int .i64 E) rfl rfl (by kernel_rfl) (fun _ _ _ h => h) (by rfl) hS (fun w' hS' => ?hv18_) ?hh18_
            case hv18_ => (go_simp; (try with_reducible rfl); (try omega))
            simp only [Act.put, List.setIfInBounds_toArray, List.set_cons_zero, List.set_cons_succ]
            have hS9 := below_row hS hgV cR
            have hx9 : Hid (Two V3 g cR (Wc.setRow g cR)) := Lib.hid (Two.mk ⟨hQ.row cR, hS9, hgV⟩)
            refine only_op 14 rfl (by kernel_rfl) (by rfl) (wp_store_row 44 (.tmp 6) (.tmp 45) rfl g cR rfl rfl _ _ hQ (by rw [info_rec, HR6.out]) (by rw [HR6.out]; rfl) HR1.out ⟨hS9, ?_⟩)
            (try simp only [put_none])
            refine take_op 15 7 (.int .i64 P) rfl rfl (by kernel_rfl) (fun _ _ _ h => h) (by rfl) hS9 (fun w' hS' => ?hv19_) ?hh19_
            case hv19_ => (go_simp; (try with_reducible rfl); (try omega))
            simp only [Act.put, List.setIfInBounds_toArray, List.set_cons_zero, List.set_cons_succ]
            refine take_op 16 8 (.int .i64 E) rfl rfl (by kernel_rfl) (fun _ _ _ h => h) (by rfl) hS9 (fun w' hS' => ?hv20_) ?hh20_
            case hv20_ => (go_simp; (try with_reducible rfl); (try omega))
            simp only [Act.put, List.setIfInBounds_toArray, List.set_cons_zero, List.set_cons_succ]
            refine wpAnyH_done (by kernel_rfl) ?_ _
            go_wp2_with fail
            go_meet
            exact ⟨_, rfl, rfl, rfl, hx9⟩
        case rest =>
          obtain ⟨g6, rfl, rfl, rfl, T10⟩ := hcut
          go_upto_region 11 with fail
          go_cut [9, 10, 11] from 48 to 64 (fun s9 s10 s11 wx => s11 = .int .i64 1 ∧ Hid (Two V3 g6 cR wx))
          case first =>
            have hS0 := T10.out.drewN 1
            refine wp_region_held_drew (S := fun W => Two V3 g6 cR W) (by kernel_rfl) hS0 (fun hS => ?_)
            clear hS0
            generalize wc.drew = W0 at hS ⊢
            refine take_op 0 49 ?v22_ rfl rfl (by kernel_rfl) (fun _ _ _ h => h) (by rfl) hS (fun w' hS' => ?hv22_) ?hh22_
            case hv22_ => (go_simp; (try with_reducible rfl); (try omega))
            simp only [Act.put, List.setIfInBounds_toArray, List.set_cons_zero, List.set_cons_succ]
            refine take_load 1 50 24 (.tmp 49) p 0 (.agg #[.int .i64 b, .slice A rs.length c]) rfl rfl (by kernel_rfl) (fun _ _ _ h => h) (by rfl) hS rfl rfl (fun w' hS' => HSG.out w' hS'.bel) ?hx22_
            simp only [Act.put, List.setIfInBounds_toArray, List.set_cons_zero, List.set_cons_succ]
            refine take_op 2 51 (.slice none 0 0) rfl rfl (by kernel_rfl) (fun _ _ _ h => h) (by rfl) hS (fun w' hS' => ?hv23_) ?hh23_
            case hv23_ => (go_simp; (try with_reducible rfl); (try omega))
            simp only [Act.put, List.setIfInBounds_toArray, List.set_cons_zero, List.set_cons_succ]
            refine take_op 4 53 (.agg #[.int .i64 (-1), .int .i64 0]) rfl rfl (by kernel_rfl) (fun _ _ _ h => h) (by rfl) hS (fun w' hS' => ?hv24_) ?hh24_
            case hv24_ => (go_simp; (try with_reducible rfl); (try omega))
            simp only [Act.put, List.setIfInBounds_toArray, List.set_cons_zero, List.set_cons_succ]
            refine take_op 7 56 ?v25_ rfl rfl (by kernel_rfl) (fun _ _ _ h => h) (by rfl) hS (fun w' hS' => ?hv25_) ?hh25_
            case hv25_ => (go_simp; (try with_reducible rfl); (try omega))
            simp only [Act.put, List.setIfInBounds_toArray, List.set_cons_zero, List.set_cons_succ]
            refine take_op 8 57 (.slice (some ad) ns.length cn) rfl rfl (by kernel_rfl) (fun _ _ _ h => h) (by rfl) hS (fun w' hS' => ?hv26_) ?hh26_
            case hv26_ => (have d3 := HD33.out w' hS'.bel; go_simp; (try with_reducible rfl); (try omega))
            simp only [Act.put, List.setIfInBounds_toArray, List.set_cons_zero, List.set_cons_succ]
            refine take_op 9 58 ?v27_ rfl rfl (by kernel_rfl) (fun _ _ _ h => h) (by rfl) hS (fun w' hS' => ?hv27_) ?hh27_
            case hv27_ => (go_simp; (try with_reducible rfl); (try omega))
            simp only [Act.put, List.setIfInBounds_toArray, List.set_cons_zero, List.set_cons_succ]
            refine take_op 10 59 (.pointer (some (ad.add k))) rfl rfl (by kernel_rfl) (fun _ _ _ h => h) (by rfl) hS (fun w' hS' => ?hv28_) ?hh28_
            case hv28_ => (go_simp; (try with_reducible rfl); (try omega))
            simp only [Act.put, List.setIfInBounds_toArray, List.set_cons_zero, List.set_cons_succ]
            refine take_op 11 60 (.int .i64 n) rfl rfl (by kernel_rfl) (fun _ _ _ h => h) (by rfl) hS (fun w' hS' => ?hv29_) ?hh29_
            case hv29_ => (have dn := HN3.out w' hS'.bel; go_simp; (try with_reducible rfl); (try omega))
            simp only [Act.put, List.setIfInBounds_toArray, List.set_cons_zero, List.set_cons_succ]
            refine three_ops 3 5 17 rfl rfl rfl (by kernel_rfl) (by rfl) (by rfl) (by rfl) (wp_call_ex 52 14 #[.slice none 0 0] _ rfl (call1_enter rfl rfl cf_copy) (HCM.out W0 hS.bel) ?_) (wp_made 54 (.slice (some ⟨W0.heap.size, 0, none⟩) 1 1) rfl (w' := W0.alloc (.cells #[.int .i64 (-1), .int .i64 0] 42)) (by go_simp; try rfl) ⟨hS.below ((Below.refl _ _).alloc (Nat.le_refl _) _), ?_⟩) (wp_made 9 (.pointer (some ⟨W0.heap.size, 0, none⟩)) rfl (w' := W0.alloc (.cells #[.int .i64 0, .int .i64 0, .string ⟨#[]⟩, .string ⟨#[]⟩, .int .i64 0, .bool false] 44)) (by go_simp; try rfl) ⟨hS.below ((Below.refl _ _).alloc (Nat.le_refl _) _), ?_⟩)
            · rintro e W1 ⟨A3, c3, rfl, hO0, hb⟩
              refine ⟨_, rfl, hS.below hb, ?_⟩
              simp only [Act.put, List.setIfInBounds_toArray, List.set_cons_zero, List.set_cons_succ]
              have OW := own_mono hO0 hS.bel.size
              have hS := hS.below hb
              clear hb hO0
              refine two_ops 5 17 rfl rfl (by kernel_rfl) (by rfl) (by rfl) (wp_made 54 (.slice (some ⟨W1.heap.size, 0, none⟩) 1 1) rfl (w' := W1.alloc (.cells #[.int .i64 (-1), .int .i64 0] 42)) (by go_simp; try rfl) ⟨hS.below ((Below.refl _ _).alloc (Nat.le_refl _) _), ?_⟩) (wp_made 9 (.pointer (some ⟨W1.heap.size, 0, none⟩)) rfl (w' := W1.alloc (.cells #[.int .i64 0, .int .i64 0, .string ⟨#[]⟩, .string ⟨#[]⟩, .int .i64 0, .bool false] 44)) (by go_simp; try rfl) ⟨hS.below ((Below.refl _ _).alloc (Nat.le_refl _) _), ?_⟩)
              · simp only [Act.put, List.setIfInBounds_toArray, List.set_cons_zero, List.set_cons_succ]
                have GW := Blk.new W1 42 #[.int .i64 (-1), .int .i64 0]
                have hbl := (Below.refl W1.heap.size W1).alloc (Nat.le_refl _) (.cells #[.int .i64 (-1), .int .i64 0] 42)
                have hS := hS.below hbl
                have OW := own_below OW hbl
                clear hbl
                generalize W1.alloc _ = W2 at GW hS OW ⊢
                generalize W1.heap.size = g5 at GW ⊢
                refine two_ops 6 17 rfl rfl (by kernel_rfl) (by rfl) (by rfl) (wp_append_mark 55 W2 (.tmp 52) (.tmp 54) rfl rfl i0 hi hz0 hz1 hz2 V3.heap.size _ _ _ rfl OW g5 (-1) 0 rfl GW (by omega) hS.bel.size (fun v' W3 hown' hgrow => ⟨hS.grown OW (Nat.le_refl _) hgrow, ?_⟩)) (wp_made 9 (.pointer (some ⟨W2.heap.size, 0, none⟩)) rfl (w' := W2.alloc (.cells #[.int .i64 0, .int .i64 0, .string ⟨#[]⟩, .string ⟨#[]⟩, .int .i64 0, .bool false] 44)) (by go_simp; try rfl) ⟨hS.below ((Below.refl _ _).alloc (Nat.le_refl _) _), ?_⟩)
                · simp only [Act.put, List.setIfInBounds_toArray, List.set_cons_zero, List.set_cons_succ]
                  have hS := hS.grown OW (Nat.le_refl _) hgrow
                  have hO2 : W3.ownsRow V3.heap.size 42 2 v' (1) (mflat ([] ++ [⟨-1, 0⟩])) := by rw [mflat_snoc]; exact hown'
                  obtain ⟨A4, c4, rfl⟩ := row_slice hO2
                  have MW := MarksAt.of_ownN HL1.out hO2
                  clear hown' hgrow OW GW hO2
                  refine two_ops 12 17 rfl rfl (by kernel_rfl) (by rfl) (by rfl) (wp_call 61 18 #[.agg #[.int .i64 b, .slice A rs.length c], .slice A4 (1) c4, .int .i64 n] (.tuple #[.agg cZ, .int .i64 0, .int .i64 1]) (fun W => Below W3.heap.size W3 W) rfl (call3_enter rfl rfl rfl rfl cf_look) (HLK2.out A4 c4 W3 hS.bel MW) (fun W4 hb => ⟨hS.below hb, ?_⟩)) (wp_made 9 (.pointer (some ⟨W3.heap.size, 0, none⟩)) rfl (w' := W3.alloc (.cells #[.int .i64 0, .int .i64 0, .string ⟨#[]⟩, .string ⟨#[]⟩, .int .i64 0, .bool false] 44)) (by go_simp; try rfl) ⟨hS.below ((Below.refl _ _).alloc (Nat.le_refl _) _), ?_⟩)
                  · simp only [Act.put, List.setIfInBounds_toArray, List.set_cons_zero, List.set_cons_succ]
                    have hS := hS.below hb
                    clear hb MW
                    refine take_op 13 48 ?v30_ rfl rfl (by kernel_rfl) (fun _ _ _ h => h) (by rfl) hS (fun w' hS' => ?hv30_) ?hh30_
                    case hv30_ => (go_simp; (try with_reducible rfl); (try omega))
                    simp only [Act.put, List.setIfInBounds_toArray, List.set_cons_zero, List.set_cons_succ]
                    refine take_op 14 62 (.agg cZ) rfl rfl (by kernel_rfl) (fun _ _ _ h => h) (by rfl) hS (fun w' hS' => ?hv31_) ?hh31_
                    case hv31_ => (go_simp; (try with_reducible rfl); (try omega))
                    simp only [Act.put, List.setIfInBounds_toArray, List.set_cons_zero, List.set_cons_succ]
                    refine take_op 15 63 (.int .i64 0) rfl rfl (by kernel_rfl) (fun _ _ _ h => h) (by rfl) hS (fun w' hS' => ?hv32_) ?hh32_
                    case hv32_ => (go_simp; (try with_reducible rfl); (try omega))
                    simp only [Act.put, List.setIfInBounds_toArray, List.set_cons_zero, List.set_cons_succ]
                    refine take_op 16 64 (.int .i64 1) rfl rfl (by kernel_rfl) (fun _ _ _ h => h) (by rfl) hS (fun w' hS' => ?hv33_) ?hh33_
                    case hv33_ => (go_simp; (try with_reducible rfl); (try omega))
                    simp only [Act.put, List.setIfInBounds_toArray, List.set_cons_zero, List.set_cons_succ]
                    refine only_op 17 rfl (by kernel_rfl) (by rfl) (wp_made 9 (.pointer (some ⟨W4.heap.size, 0, none⟩)) rfl (w' := W4.alloc (.cells #[.int .i64 0, .int .i64 0, .string ⟨#[]⟩, .string ⟨#[]⟩, .int .i64 0, .bool false] 44)) (by go_simp; try rfl) ⟨hS.below ((Below.refl _ _).alloc (Nat.le_refl _) _), ?_⟩)
                    simp only [Act.put, List.setIfInBounds_toArray, List.set_cons_zero, List.set_cons_succ]
                    have XW := RB.new W4 #[.int .i64 0, .int .i64 0, .string ⟨#[]⟩, .string ⟨#[]⟩, .int .i64 0, .bool false]
                    have hx69 : V3.heap.size ≤ W4.heap.size ∧ W4.heap.size ≠ g6 := ⟨hS.bel.size, by have := hS.lt; omega⟩
                    have hbl := (Below.refl W4.heap.size W4).alloc (Nat.le_refl _) (.cells #[.int .i64 0, .int .i64 0, .string ⟨#[]⟩, .string ⟨#[]⟩, .int .i64 0, .bool false] 44)
                    have hS := hS.below hbl
                    clear hbl
                    generalize W4.alloc _ = W5 at XW hS ⊢
                    generalize W4.heap.size = g9 at XW hx69 ⊢
                    have hS9 := hS.row' hx69.2 hx69.1 cZ
                    refine only_op 18 rfl (by kernel_rfl) (by rfl) (wp_store_row 44 (.tmp 9) (.tmp 62) rfl g9 cZ rfl rfl _ _ XW (by rw [info_rec, HZ6.out]) (by rw [HZ6.out]; rfl) HZ1.out ⟨hS9, ?_⟩)
                    (try simp only [put_none])
                    refine take_op 19 10 (.int .i64 0) rfl rfl (by kernel_rfl) (fun _ _ _ h => h) (by rfl) hS9 (fun w' hS' => ?hv34_) ?hh34_
                    case hv34_ => (go_simp; (try with_reducible rfl); (try omega))
                    simp only [Act.put, List.setIfInBounds_toArray, List.set_cons_zero, List.set_cons_succ]
                    refine take_op 20 11 (.int .i64 1) rfl rfl (by kernel_rfl) (fun _ _ _ h => h) (by rfl) hS9 (fun w' hS' => ?hv35_) ?hh35_
                    case hv35_ => (go_simp; (try with_reducible rfl); (try omega))
                    simp only [Act.put, List.setIfInBounds_toArray, List.set_cons_zero, List.set_cons_succ]
                    have hx9 := Lib.hid hS9
                    refine wpAnyH_done (by kernel_rfl) ?_ _
                    go_wp2_with fail
                    go_meet
                    exact ⟨rfl, hx9⟩
                  · simp only [Act.put, List.setIfInBounds_toArray, List.set_cons_zero, List.set_cons_succ]
                    have XW := RB.new W3 #[.int .i64 0, .int .i64 0, .string ⟨#[]⟩, .string ⟨#[]⟩, .int .i64 0, .bool false]
                    have hx69 : V3.heap.size ≤ W3.heap.size ∧ W3.heap.size ≠ g6 := ⟨hS.bel.size, by have := hS.lt; omega⟩
                    have hbl := (Below.refl W3.heap.size W3).alloc (Nat.le_refl _) (.cells #[.int .i64 0, .int .i64 0, .string ⟨#[]⟩, .string ⟨#[]⟩, .int .i64 0, .bool false] 44)
                    have hS := hS.below hbl
                    have MW := MW.on hbl
                    clear hbl
                    generalize W3.alloc _ = W4 at XW hS MW ⊢
                    generalize W3.heap.size = g9 at XW hx69 ⊢
                    refine only_op 12 rfl (by kernel_rfl) (by rfl) (wp_call 61 18 #[.agg #[.int .i64 b, .slice A rs.length c], .slice A4 (1) c4, .int .i64 n] (.tuple #[.agg cZ, .int .i64 0, .int .i64 1]) (fun W => Below W4.heap.size W4 W) rfl (call3_enter rfl rfl rfl rfl cf_look) (HLK2.out A4 c4 W4 hS.bel MW) (fun W5 hb => ⟨hS.below hb, ?_⟩))
                    simp only [Act.put, List.setIfInBounds_toArray, List.set_cons_zero, List.set_cons_succ]
                    have hS := hS.below hb
                    have XW := XW.below hb
                    clear hb MW
                    refine take_op 13 48 ?v36_ rfl rfl (by kernel_rfl) (fun _ _ _ h => h) (by rfl) hS (fun w' hS' => ?hv36_) ?hh36_
                    case hv36_ => (go_simp; (try with_reducible rfl); (try omega))
                    simp only [Act.put, List.setIfInBounds_toArray, List.set_cons_zero, List.set_cons_succ]
                    refine take_op 14 62 (.agg cZ) rfl rfl (by kernel_rfl) (fun _ _ _ h => h) (by rfl) hS (fun w' hS' => ?hv37_) ?hh37_
                    case hv37_ => (go_simp; (try with_reducible rfl); (try omega))
                    simp only [Act.put, List.setIfInBounds_toArray, List.set_cons_zero, List.set_cons_succ]
                    refine take_op 15 63 (.int .i64 0) rfl rfl (by kernel_rfl) (fun _ _ _ h => h) (by rfl) hS (fun w' hS' => ?hv38_) ?hh38_
                    case hv38_ => (go_simp; (try with_reducible rfl); (try omega))
                    simp only [Act.put, List.setIfInBounds_toArray, List.set_cons_zero, List.set_cons_succ]
                    refine take_op 16 64 (.int .i64 1) rfl rfl (by kernel_rfl) (fun _ _ _ h => h) (by rfl) hS (fun w' hS' => ?hv39_) ?hh39_
                    case hv39_ => (go_simp; (try with_reducible rfl); (try omega))
                    simp only [Act.put, List.setIfInBounds_toArray, List.set_cons_zero, List.set_cons_succ]
                    have hS9 := hS.row' hx69.2 hx69.1 cZ
                    refine only_op 18 rfl (by kernel_rfl) (by rfl) (wp_store_row 44 (.tmp 9) (.tmp 62) rfl g9 cZ rfl rfl _ _ XW (by rw [info_rec, HZ6.out]) (by rw [HZ6.out]; rfl) HZ1.out ⟨hS9, ?_⟩)
                    (try simp only [put_none])
                    refine take_op 19 10 (.int .i64 0) rfl rfl (by kernel_rfl) (fun _ _ _ h => h) (by rfl) hS9 (fun w' hS' => ?hv40_) ?hh40_
                    case hv40_ => (go_simp; (try with_reducible rfl); (try omega))
                    simp only [Act.put, List.setIfInBounds_toArray, List.set_cons_zero, List.set_cons_succ]
                    refine take_op 20 11 (.int .i64 1) rfl rfl (by kernel_rfl) (fun _ _ _ h => h) (by rfl) hS9 (fun w' hS' => ?hv41_) ?hh41_
                    case hv41_ => (go_simp; (try with_reducible rfl); (try omega))
                    simp only [Act.put, List.setIfInBounds_toArray, List.set_cons_zero, List.set_cons_succ]
                    have hx9 := Lib.hid hS9
                    refine wpAnyH_done (by kernel_rfl) ?_ _
                    go_wp2_with fail
                    go_meet
                    exact ⟨rfl, hx9⟩
                · simp only [Act.put, List.setIfInBounds_toArray, List.set_cons_zero, List.set_cons_succ]
                  have XW := RB.new W2 #[.int .i64 0, .int .i64 0, .string ⟨#[]⟩, .string ⟨#[]⟩, .int .i64 0, .bool false]
                  have hx69 : V3.heap.size ≤ W2.heap.size ∧ W2.heap.size ≠ g6 := ⟨hS.bel.size, by have := hS.lt; omega⟩
                  have hbl := (Below.refl W2.heap.size W2).alloc (Nat.le_refl _) (.cells #[.int .i64 0, .int .i64 0, .string ⟨#[]⟩, .string ⟨#[]⟩, .int .i64 0, .bool false] 44)
                  have hS := hS.below hbl
                  have OW := own_below OW hbl
                  have GW := GW.below hbl
                  clear hbl
                  generalize W2.alloc _ = W3 at XW hS OW GW ⊢
                  generalize W2.heap.size = g9 at XW hx69 ⊢
                  refine only_op 6 rfl (by kernel_rfl) (by rfl) (wp_append_mark 55 W3 (.tmp 52) (.tmp 54) rfl rfl i0 hi hz0 hz1 hz2 V3.heap.size _ _ _ rfl OW g5 (-1) 0 rfl GW (by omega) hS.bel.size (fun v' W4 hown' hgrow => ⟨hS.grown OW (Nat.le_refl _) hgrow, ?_⟩))
                  simp only [Act.put, List.setIfInBounds_toArray, List.set_cons_zero, List.set_cons_succ]
                  have hS := hS.grown OW (Nat.le_refl _) hgrow
                  have XW := XW.grown OW hgrow
                  have hO2 : W4.ownsRow V3.heap.size 42 2 v' (1) (mflat ([] ++ [⟨-1, 0⟩])) := by rw [mflat_snoc]; exact hown'
                  obtain ⟨A4, c4, rfl⟩ := row_slice hO2
                  have MW := MarksAt.of_ownN HL1.out hO2
                  clear hown' hgrow OW GW hO2
                  refine only_op 12 rfl (by kernel_rfl) (by rfl) (wp_call 61 18 #[.agg #[.int .i64 b, .slice A rs.length c], .slice A4 (1) c4, .int .i64 n] (.tuple #[.agg cZ, .int .i64 0, .int .i64 1]) (fun W => Below W4.heap.size W4 W) rfl (call3_enter rfl rfl rfl rfl cf_look) (HLK2.out A4 c4 W4 hS.bel MW) (fun W5 hb => ⟨hS.below hb, ?_⟩))
                  simp only [Act.put, List.setIfInBounds_toArray, List.set_cons_zero, List.set_cons_succ]
                  have hS := hS.below hb
                  have XW := XW.below hb
                  clear hb MW
                  refine take_op 13 48 ?v42_ rfl rfl (by kernel_rfl) (fun _ _ _ h => h) (by rfl) hS (fun w' hS' => ?hv42_) ?hh42_
                  case hv42_ => (go_simp; (try with_reducible rfl); (try omega))
                  simp only [Act.put, List.setIfInBounds_toArray, List.set_cons_zero, List.set_cons_succ]
                  refine take_op 14 62 (.agg cZ) rfl rfl (by kernel_rfl) (fun _ _ _ h => h) (by rfl) hS (fun w' hS' => ?hv43_) ?hh43_
                  case hv43_ => (go_simp; (try with_reducible rfl); (try omega))
                  simp only [Act.put, List.setIfInBounds_toArray, List.set_cons_zero, List.set_cons_succ]
                  refine take_op 15 63 (.int .i64 0) rfl rfl (by kernel_rfl) (fun _ _ _ h => h) (by rfl) hS (fun w' hS' => ?hv44_) ?hh44_
                  case hv44_ => (go_simp; (try with_reducible rfl); (try omega))
                  simp only [Act.put, List.setIfInBounds_toArray, List.set_cons_zero, List.set_cons_succ]
                  refine take_op 16 64 (.int .i64 1) rfl rfl (by kernel_rfl) (fun _ _ _ h => h) (by rfl) hS (fun w' hS' => ?hv45_) ?hh45_
                  case hv45_ => (go_simp; (try with_reducible rfl); (try omega))
                  simp only [Act.put, List.setIfInBounds_toArray, List.set_cons_zero, List.set_cons_succ]
                  have hS9 := hS.row' hx69.2 hx69.1 cZ
                  refine only_op 18 rfl (by kernel_rfl) (by rfl) (wp_store_row 44 (.tmp 9) (.tmp 62) rfl g9 cZ rfl rfl _ _ XW (by rw [info_rec, HZ6.out]) (by rw [HZ6.out]; rfl) HZ1.out ⟨hS9, ?_⟩)
                  (try simp only [put_none])
                  refine take_op 19 10 (.int .i64 0) rfl rfl (by kernel_rfl) (fun _ _ _ h => h) (by rfl) hS9 (fun w' hS' => ?hv46_) ?hh46_
                  case hv46_ => (go_simp; (try with_reducible rfl); (try omega))
                  simp only [Act.put, List.setIfInBounds_toArray, List.set_cons_zero, List.set_cons_succ]
                  refine take_op 20 11 (.int .i64 1) rfl rfl (by kernel_rfl) (fun _ _ _ h => h) (by rfl) hS9 (fun w' hS' => ?hv47_) ?hh47_
                  case hv47_ => (go_simp; (try with_reducible rfl); (try omega))
                  simp only [Act.put, List.setIfInBounds_toArray, List.set_cons_zero, List.set_cons_succ]
                  have hx9 := Lib.hid hS9
                  refine wpAnyH_done (by kernel_rfl) ?_ _
                  go_wp2_with fail
                  go_meet
                  exact ⟨rfl, hx9⟩
              · simp only [Act.put, List.setIfInBounds_toArray, List.set_cons_zero, List.set_cons_succ]
                have XW := RB.new W1 #[.int .i64 0, .int .i64 0, .string ⟨#[]⟩, .string ⟨#[]⟩, .int .i64 0, .bool false]
                have hx69 : V3.heap.size ≤ W1.heap.size ∧ W1.heap.size ≠ g6 := ⟨hS.bel.size, by have := hS.lt; omega⟩
                have hbl := (Below.refl W1.heap.size W1).alloc (Nat.le_refl _) (.cells #[.int .i64 0, .int .i64 0, .string ⟨#[]⟩, .string ⟨#[]⟩, .int .i64 0, .bool false] 44)
                have hS := hS.below hbl
                have OW := own_below OW hbl
                clear hbl
                generalize W1.alloc _ = W2 at XW hS OW ⊢
                generalize W1.heap.size = g9 at XW hx69 ⊢
                refine only_op 5 rfl (by kernel_rfl) (by rfl) (wp_made 54 (.slice (some ⟨W2.heap.size, 0, none⟩) 1 1) rfl (w' := W2.alloc (.cells #[.int .i64 (-1), .int .i64 0] 42)) (by go_simp; try rfl) ⟨hS.below ((Below.refl _ _).alloc (Nat.le_refl _) _), ?_⟩)
                simp only [Act.put, List.setIfInBounds_toArray, List.set_cons_zero, List.set_cons_succ]
                have GW := Blk.new W2 42 #[.int .i64 (-1), .int .i64 0]
                have hbl := (Below.refl W2.heap.size W2).alloc (Nat.le_refl _) (.cells #[.int .i64 (-1), .int .i64 0] 42)
                have hS := hS.below hbl
                have OW := own_below OW hbl
                have XW := XW.below hbl
                clear hbl
                generalize W2.alloc _ = W3 at GW hS OW XW ⊢
                generalize W2.heap.size = g5 at GW ⊢
                refine only_op 6 rfl (by kernel_rfl) (by rfl) (wp_append_mark 55 W3 (.tmp 52) (.tmp 54) rfl rfl i0 hi hz0 hz1 hz2 V3.heap.size _ _ _ rfl OW g5 (-1) 0 rfl GW (by omega) hS.bel.size (fun v' W4 hown' hgrow => ⟨hS.grown OW (Nat.le_refl _) hgrow, ?_⟩))
                simp only [Act.put, List.setIfInBounds_toArray, List.set_cons_zero, List.set_cons_succ]
                have hS := hS.grown OW (Nat.le_refl _) hgrow
                have XW := XW.grown OW hgrow
                have hO2 : W4.ownsRow V3.heap.size 42 2 v' (1) (mflat ([] ++ [⟨-1, 0⟩])) := by rw [mflat_snoc]; exact hown'
                obtain ⟨A4, c4, rfl⟩ := row_slice hO2
                have MW := MarksAt.of_ownN HL1.out hO2
                clear hown' hgrow OW GW hO2
                refine only_op 12 rfl (by kernel_rfl) (by rfl) (wp_call 61 18 #[.agg #[.int .i64 b, .slice A rs.length c], .slice A4 (1) c4, .int .i64 n] (.tuple #[.agg cZ, .int .i64 0, .int .i64 1]) (fun W => Below W4.heap.size W4 W) rfl (call3_enter rfl rfl rfl rfl cf_look) (HLK2.out A4 c4 W4 hS.bel MW) (fun W5 hb => ⟨hS.below hb, ?_⟩))
                simp only [Act.put, List.setIfInBounds_toArray, List.set_cons_zero, List.set_cons_succ]
                have hS := hS.below hb
                have XW := XW.below hb
                clear hb MW
                refine take_op 13 48 ?v48_ rfl rfl (by kernel_rfl) (fun _ _ _ h => h) (by rfl) hS (fun w' hS' => ?hv48_) ?hh48_
                case hv48_ => (go_simp; (try with_reducible rfl); (try omega))
                simp only [Act.put, List.setIfInBounds_toArray, List.set_cons_zero, List.set_cons_succ]
                refine take_op 14 62 (.agg cZ) rfl rfl (by kernel_rfl) (fun _ _ _ h => h) (by rfl) hS (fun w' hS' => ?hv49_) ?hh49_
                case hv49_ => (go_simp; (try with_reducible rfl); (try omega))
                simp only [Act.put, List.setIfInBounds_toArray, List.set_cons_zero, List.set_cons_succ]
                refine take_op 15 63 (.int .i64 0) rfl rfl (by kernel_rfl) (fun _ _ _ h => h) (by rfl) hS (fun w' hS' => ?hv50_) ?hh50_
                case hv50_ => (go_simp; (try with_reducible rfl); (try omega))
                simp only [Act.put, List.setIfInBounds_toArray, List.set_cons_zero, List.set_cons_succ]
                refine take_op 16 64 (.int .i64 1) rfl rfl (by kernel_rfl) (fun _ _ _ h => h) (by rfl) hS (fun w' hS' => ?hv51_) ?hh51_
                case hv51_ => (go_simp; (try with_reducible rfl); (try omega))
                simp only [Act.put, List.setIfInBounds_toArray, List.set_cons_zero, List.set_cons_succ]
                have hS9 := hS.row' hx69.2 hx69.1 cZ
                refine only_op 18 rfl (by kernel_rfl) (by rfl) (wp_store_row 44 (.tmp 9) (.tmp 62) rfl g9 cZ rfl rfl _ _ XW (by rw [info_rec, HZ6.out]) (by rw [HZ6.out]; rfl) HZ1.out ⟨hS9, ?_⟩)
                (try simp only [put_none])
                refine take_op 19 10 (.int .i64 0) rfl rfl (by kernel_rfl) (fun _ _ _ h => h) (by rfl) hS9 (fun w' hS' => ?hv52_) ?hh52_
                case hv52_ => (go_simp; (try with_reducible rfl); (try omega))
                simp only [Act.put, List.setIfInBounds_toArray, List.set_cons_zero, List.set_cons_succ]
                refine take_op 20 11 (.int .i64 1) rfl rfl (by kernel_rfl) (fun _ _ _ h => h) (by rfl) hS9 (fun w' hS' => ?hv53_) ?hh53_
                case hv53_ => (go_simp; (try with_reducible rfl); (try omega))
                simp only [Act.put, List.setIfInBounds_toArray, List.set_cons_zero, List.set_cons_succ]
                have hx9 := Lib.hid hS9
                refine wpAnyH_done (by kernel_rfl) ?_ _
                go_wp2_with fail
                go_meet
                exact ⟨rfl, hx9⟩
            · simp only [Act.put, List.setIfInBounds_toArray, List.set_cons_zero, List.set_cons_succ]
              have GW := Blk.new W0 42 #[.int .i64 (-1), .int .i64 0]
              have hbl := (Below.refl W0.heap.size W0).alloc (Nat.le_refl _) (.cells #[.int .i64 (-1), .int .i64 0] 42)
              have hS := hS.below hbl
              clear hbl
              generalize W0.alloc _ = W1 at GW hS ⊢
              generalize W0.heap.size = g5 at GW ⊢
              refine two_ops 3 17 rfl rfl (by kernel_rfl) (by rfl) (by rfl) (wp_call_ex 52 14 #[.slice none 0 0] _ rfl (call1_enter rfl rfl cf_copy) (HCM.out W1 hS.bel) ?_) (wp_made 9 (.pointer (some ⟨W1.heap.size, 0, none⟩)) rfl (w' := W1.alloc (.cells #[.int .i64 0, .int .i64 0, .string ⟨#[]⟩, .string ⟨#[]⟩, .int .i64 0, .bool false] 44)) (by go_simp; try rfl) ⟨hS.below ((Below.refl _ _).alloc (Nat.le_refl _) _), ?_⟩)
              · rintro e W2 ⟨A3, c3, rfl, hO0, hb⟩
                refine ⟨_, rfl, hS.below hb, ?_⟩
                simp only [Act.put, List.setIfInBounds_toArray, List.set_cons_zero, List.set_cons_succ]
                have OW := own_mono hO0 hS.bel.size
                have hS := hS.below hb
                have GW := GW.below hb
                clear hb hO0
                refine two_ops 6 17 rfl rfl (by kernel_rfl) (by rfl) (by rfl) (wp_append_mark 55 W2 (.tmp 52) (.tmp 54) rfl rfl i0 hi hz0 hz1 hz2 V3.heap.size _ _ _ rfl OW g5 (-1) 0 rfl GW (by omega) hS.bel.size (fun v' W3 hown' hgrow => ⟨hS.grown OW (Nat.le_refl _) hgrow, ?_⟩)) (wp_made 9 (.pointer (some ⟨W2.heap.size, 0, none⟩)) rfl (w' := W2.alloc (.cells #[.int .i64 0, .int .i64 0, .string ⟨#[]⟩, .string ⟨#[]⟩, .int .i64 0, .bool false] 44)) (by go_simp; try rfl) ⟨hS.below ((Below.refl _ _).alloc (Nat.le_refl _) _), ?_⟩)
                · simp only [Act.put, List.setIfInBounds_toArray, List.set_cons_zero, List.set_cons_succ]
                  have hS := hS.grown OW (Nat.le_refl _) hgrow
                  have hO2 : W3.ownsRow V3.heap.size 42 2 v' (1) (mflat ([] ++ [⟨-1, 0⟩])) := by rw [mflat_snoc]; exact hown'
                  obtain ⟨A4, c4, rfl⟩ := row_slice hO2
                  have MW := MarksAt.of_ownN HL1.out hO2
                  clear hown' hgrow OW GW hO2
                  refine two_ops 12 17 rfl rfl (by kernel_rfl) (by rfl) (by rfl) (wp_call 61 18 #[.agg #[.int .i64 b, .slice A rs.length c], .slice A4 (1) c4, .int .i64 n] (.tuple #[.agg cZ, .int .i64 0, .int .i64 1]) (fun W => Below W3.heap.size W3 W) rfl (call3_enter rfl rfl rfl rfl cf_look) (HLK2.out A4 c4 W3 hS.bel MW) (fun W4 hb => ⟨hS.below hb, ?_⟩)) (wp_made 9 (.pointer (some ⟨W3.heap.size, 0, none⟩)) rfl (w' := W3.alloc (.cells #[.int .i64 0, .int .i64 0, .string ⟨#[]⟩, .string ⟨#[]⟩, .int .i64 0, .bool false] 44)) (by go_simp; try rfl) ⟨hS.below ((Below.refl _ _).alloc (Nat.le_refl _) _), ?_⟩)
                  · simp only [Act.put, List.setIfInBounds_toArray, List.set_cons_zero, List.set_cons_succ]
                    have hS := hS.below hb
                    clear hb MW
                    refine take_op 13 48 ?v54_ rfl rfl (by kernel_rfl) (fun _ _ _ h => h) (by rfl) hS (fun w' hS' => ?hv54_) ?hh54_
                    case hv54_ => (go_simp; (try with_reducible rfl); (try omega))
                    simp only [Act.put, List.setIfInBounds_toArray, List.set_cons_zero, List.set_cons_succ]
                    refine take_op 14 62 (.agg cZ) rfl rfl (by kernel_rfl) (fun _ _ _ h => h) (by rfl) hS (fun w' hS' => ?hv55_) ?hh55_
                    case hv55_ => (go_simp; (try with_reducible rfl); (try omega))
                    simp only [Act.put, List.setIfInBounds_toArray, List.set_cons_zero, List.set_cons_succ]
                    refine take_op 15 63 (.int .i64 0) rfl rfl (by kernel_rfl) (fun _ _ _ h => h) (by rfl) hS (fun w' hS' => ?hv56_) ?hh56_
                    case hv56_ => (go_simp; (try with_reducible rfl); (try omega))
                    simp only [Act.put, List.setIfInBounds_toArray, List.set_cons_zero, List.set_cons_succ]
                    refine take_op 16 64 (.int .i64 1) rfl rfl (by kernel_rfl) (fun _ _ _ h => h) (by rfl) hS (fun w' hS' => ?hv57_) ?hh57_
                    case hv57_ => (go_simp; (try with_reducible rfl); (try omega))
                    simp only [Act.put, List.setIfInBounds_toArray, List.set_cons_zero, List.set_cons_succ]
                    refine only_op 17 rfl (by kernel_rfl) (by rfl) (wp_made 9 (.pointer (some ⟨W4.heap.size, 0, none⟩)) rfl (w' := W4.alloc (.cells #[.int .i64 0, .int .i64 0, .string ⟨#[]⟩, .string ⟨#[]⟩, .int .i64 0, .bool false] 44)) (by go_simp; try rfl) ⟨hS.below ((Below.refl _ _).alloc (Nat.le_refl _) _), ?_⟩)
                    simp only [Act.put, List.setIfInBounds_toArray, List.set_cons_zero, List.set_cons_succ]
                    have XW := RB.new W4 #[.int .i64 0, .int .i64 0, .string ⟨#[]⟩, .string ⟨#[]⟩, .int .i64 0, .bool false]
                    have hx69 : V3.heap.size ≤ W4.heap.size ∧ W4.heap.size ≠ g6 := ⟨hS.bel.size, by have := hS.lt; omega⟩
                    have hbl := (Below.refl W4.heap.size W4).alloc (Nat.le_refl _) (.cells #[.int .i64 0, .int .i64 0, .string ⟨#[]⟩, .string ⟨#[]⟩, .int .i64 0, .bool false] 44)
                    have hS := hS.below hbl
                    clear hbl
                    generalize W4.alloc _ = W5 at XW hS ⊢
                    generalize W4.heap.size = g9 at XW hx69 ⊢
                    have hS9 := hS.row' hx69.2 hx69.1 cZ
                    refine only_op 18 rfl (by kernel_rfl) (by rfl) (wp_store_row 44 (.tmp 9) (.tmp 62) rfl g9 cZ rfl rfl _ _ XW (by rw [info_rec, HZ6.out]) (by rw [HZ6.out]; rfl) HZ1.out ⟨hS9, ?_⟩)
                    (try simp only [put_none])
                    refine take_op 19 10 (.int .i64 0) rfl rfl (by kernel_rfl) (fun _ _ _ h => h) (by rfl) hS9 (fun w' hS' => ?hv58_) ?hh58_
                    case hv58_ => (go_simp; (try with_reducible rfl); (try omega))
                    simp only [Act.put, List.setIfInBounds_toArray, List.set_cons_zero, List.set_cons_succ]
                    refine take_op 20 11 (.int .i64 1) rfl rfl (by kernel_rfl) (fun _ _ _ h => h) (by rfl) hS9 (fun w' hS' => ?hv59_) ?hh59_
                    case hv59_ => (go_simp; (try with_reducible rfl); (try omega))
                    simp only [Act.put, List.setIfInBounds_toArray, List.set_cons_zero, List.set_cons_succ]
                    have hx9 := Lib.hid hS9
                    refine wpAnyH_done (by kernel_rfl) ?_ _
                    go_wp2_with fail
                    go_meet
                    exact ⟨rfl, hx9⟩
                  · simp only [Act.put, List.setIfInBounds_toArray, List.set_cons_zero, List.set_cons_succ]
                    have XW := RB.new W3 #[.int .i64 0, .int .i64 0, .string ⟨#[]⟩, .string ⟨#[]⟩, .int .i64 0, .bool false]
                    have hx69 : V3.heap.size ≤ W3.heap.size ∧ W3.heap.size ≠ g6 := ⟨hS.bel.size, by have := hS.lt; omega⟩
                    have hbl := (Below.refl W3.heap.size W3).alloc (Nat.le_refl _) (.cells #[.int .i64 0, .int .i64 0, .string ⟨#[]⟩, .string ⟨#[]⟩, .int .i64 0, .bool false] 44)
                    have hS := hS.below hbl
                    have MW := MW.on hbl
                    clear hbl
                    generalize W3.alloc _ = W4 at XW hS MW ⊢
                    generalize W3.heap.size = g9 at XW hx69 ⊢
                    refine only_op 12 rfl (by kernel_rfl) (by rfl) (wp_call 61 18 #[.agg #[.int .i64 b, .slice A rs.length c], .slice A4 (1) c4, .int .i64 n] (.tuple #[.agg cZ, .int .i64 0, .int .i64 1]) (fun W => Below W4.heap.size W4 W) rfl (call3_enter rfl rfl rfl rfl cf_look) (HLK2.out A4 c4 W4 hS.bel MW) (fun W5 hb => ⟨hS.below hb, ?_⟩))
                    simp only [Act.put, List.setIfInBounds_toArray, List.set_cons_zero, List.set_cons_succ]
                    have hS := hS.below hb
                    have XW := XW.below hb
                    clear hb MW
                    refine take_op 13 48 ?v60_ rfl rfl (by kernel_rfl) (fun _ _ _ h => h) (by rfl) hS (fun w' hS' => ?hv60_) ?hh60_
                    case hv60_ => (go_simp; (try with_reducible rfl); (try omega))
                    simp only [Act.put, List.setIfInBounds_toArray, List.set_cons_zero, List.set_cons_succ]
                    refine take_op 14 62 (.agg cZ) rfl rfl (by kernel_rfl) (fun _ _ _ h => h) (by rfl) hS (fun w' hS' => ?hv61_) ?hh61_
                    case hv61_ => (go_simp; (try with_reducible rfl); (try omega))
                    simp only [Act.put, List.setIfInBounds_toArray, List.set_cons_zero, List.set_cons_succ]
                    refine take_op 15 63 (.int .i64 0) rfl rfl (by kernel_rfl) (fun _ _ _ h => h) (by rfl) hS (fun w' hS' => ?hv62_) ?hh62_
                    case hv62_ => (go_simp; (try with_reducible rfl); (try omega))
                    simp only [Act.put, List.setIfInBounds_toArray, List.set_cons_zero, List.set_cons_succ]
                    refine take_op 16 64 (.int .i64 1) rfl rfl (by kernel_rfl) (fun _ _ _ h => h) (by rfl) hS (fun w' hS' => ?hv63_) ?hh63_
                    case hv63_ => (go_simp; (try with_reducible rfl); (try omega))
                    simp only [Act.put, List.setIfInBounds_toArray, List.set_cons_zero, List.set_cons_succ]
                    have hS9 := hS.row' hx69.2 hx69.1 cZ
                    refine only_op 18 rfl (by kernel_rfl) (by rfl) (wp_store_row 44 (.tmp 9) (.tmp 62) rfl g9 cZ rfl rfl _ _ XW (by rw [info_rec, HZ6.out]) (by rw [HZ6.out]; rfl) HZ1.out ⟨hS9, ?_⟩)
                    (try simp only [put_none])
                    refine take_op 19 10 (.int .i64 0) rfl rfl (by kernel_rfl) (fun _ _ _ h => h) (by rfl) hS9 (fun w' hS' => ?hv64_) ?hh64_
                    case hv64_ => (go_simp; (try with_reducible rfl); (try omega))
                    simp only [Act.put, List.setIfInBounds_toArray, List.set_cons_zero, List.set_cons_succ]
                    refine take_op 20 11 (.int .i64 1) rfl rfl (by kernel_rfl) (fun _ _ _ h => h) (by rfl) hS9 (fun w' hS' => ?hv65_) ?hh65_
                    case hv65_ => (go_simp; (try with_reducible rfl); (try omega))
                    simp only [Act.put, List.setIfInBounds_toArray, List.set_cons_zero, List.set_cons_succ]
                    have hx9 := Lib.hid hS9
                    refine wpAnyH_done (by kernel_rfl) ?_ _
                    go_wp2_with fail
                    go_meet
                    exact ⟨rfl, hx9⟩
                · simp only [Act.put, List.setIfInBounds_toArray, List.set_cons_zero, List.set_cons_succ]
                  have XW := RB.new W2 #[.int .i64 0, .int .i64 0, .string ⟨#[]⟩, .string ⟨#[]⟩, .int .i64 0, .bool false]
                  have hx69 : V3.heap.size ≤ W2.heap.size ∧ W2.heap.size ≠ g6 := ⟨hS.bel.size, by have := hS.lt; omega⟩
                  have hbl := (Below.refl W2.heap.size W2).alloc (Nat.le_refl _) (.cells #[.int .i64 0, .int .i64 0, .string ⟨#[]⟩, .string ⟨#[]⟩, .int .i64 0, .bool false] 44)
                  have hS := hS.below hbl
                  have OW := own_below OW hbl
                  have GW := GW.below hbl
                  clear hbl
                  generalize W2.alloc _ = W3 at XW hS OW GW ⊢
                  generalize W2.heap.size = g9 at XW hx69 ⊢
                  refine only_op 6 rfl (by kernel_rfl) (by rfl) (wp_append_mark 55 W3 (.tmp 52) (.tmp 54) rfl rfl i0 hi hz0 hz1 hz2 V3.heap.size _ _ _ rfl OW g5 (-1) 0 rfl GW (by omega) hS.bel.size (fun v' W4 hown' hgrow => ⟨hS.grown OW (Nat.le_refl _) hgrow, ?_⟩))
                  simp only [Act.put, List.setIfInBounds_toArray, List.set_cons_zero, List.set_cons_succ]
                  have hS := hS.grown OW (Nat.le_refl _) hgrow
                  have XW := XW.grown OW hgrow
                  have hO2 : W4.ownsRow V3.heap.size 42 2 v' (1) (mflat ([] ++ [⟨-1, 0⟩])) := by rw [mflat_snoc]; exact hown'
                  obtain ⟨A4, c4, rfl⟩ := row_slice hO2
                  have MW := MarksAt.of_ownN HL1.out hO2
                  clear hown' hgrow OW GW hO2
                  refine only_op 12 rfl (by kernel_rfl) (by rfl) (wp_call 61 18 #[.agg #[.int .i64 b, .slice A rs.length c], .slice A4 (1) c4, .int .i64 n] (.tuple #[.agg cZ, .int .i64 0, .int .i64 1]) (fun W => Below W4.heap.size W4 W) rfl (call3_enter rfl rfl rfl rfl cf_look) (HLK2.out A4 c4 W4 hS.bel MW) (fun W5 hb => ⟨hS.below hb, ?_⟩))
                  simp only [Act.put, List.setIfInBounds_toArray, List.set_cons_zero, List.set_cons_succ]
                  have hS := hS.below hb
                  have XW := XW.below hb
                  clear hb MW
                  refine take_op 13 48 ?v66_ rfl rfl (by kernel_rfl) (fun _ _ _ h => h) (by rfl) hS (fun w' hS' => ?hv66_) ?hh66_
                  case hv66_ => (go_simp; (try with_reducible rfl); (try omega))
                  simp only [Act.put, List.setIfInBounds_toArray, List.set_cons_zero, List.set_cons_succ]
                  refine take_op 14 62 (.agg cZ) rfl rfl (by kernel_rfl) (fun _ _ _ h => h) (by rfl) hS (fun w' hS' => ?hv67_) ?hh67_
                  case hv67_ => (go_simp; (try with_reducible rfl); (try omega))
                  simp only [Act.put, List.setIfInBounds_toArray, List.set_cons_zero, List.set_cons_succ]
                  refine take_op 15 63 (.int .i64 0) rfl rfl (by kernel_rfl) (fun _ _ _ h => h) (by rfl) hS (fun w' hS' => ?hv68_) ?hh68_
                  case hv68_ => (go_simp; (try with_reducible rfl); (try omega))
                  simp only [Act.put, List.setIfInBounds_toArray, List.set_cons_zero, List.set_cons_succ]
                  refine take_op 16 64 (.int .i64 1) rfl rfl (by kernel_rfl) (fun _ _ _ h => h) (by rfl) hS (fun w' hS' => ?hv69_) ?hh69_
                  case hv69_ => (go_simp; (try with_reducible rfl); (try omega))
                  simp only [Act.put, List.setIfInBounds_toArray, List.set_cons_zero, List.set_cons_succ]
                  have hS9 := hS.row' hx69.2 hx69.1 cZ
                  refine only_op 18 rfl (by kernel_rfl) (by rfl) (wp_store_row 44 (.tmp 9) (.tmp 62) rfl g9 cZ rfl rfl _ _ XW (by rw [info_rec, HZ6.out]) (by rw [HZ6.out]; rfl) HZ1.out ⟨hS9, ?_⟩)
                  (try simp only [put_none])
                  refine take_op 19 10 (.int .i64 0) rfl rfl (by kernel_rfl) (fun _ _ _ h => h) (by rfl) hS9 (fun w' hS' => ?hv70_) ?hh70_
                  case hv70_ => (go_simp; (try with_reducible rfl); (try omega))
                  simp only [Act.put, List.setIfInBounds_toArray, List.set_cons_zero, List.set_cons_succ]
                  refine take_op 20 11 (.int .i64 1) rfl rfl (by kernel_rfl) (fun _ _ _ h => h) (by rfl) hS9 (fun w' hS' => ?hv71_) ?hh71_
                  case hv71_ => (go_simp; (try with_reducible rfl); (try omega))
                  simp only [Act.put, List.setIfInBounds_toArray, List.set_cons_zero, List.set_cons_succ]
                  have hx9 := Lib.hid hS9
                  refine wpAnyH_done (by kernel_rfl) ?_ _
                  go_wp2_with fail
                  go_meet
                  exact ⟨rfl, hx9⟩
              · simp only [Act.put, List.setIfInBounds_toArray, List.set_cons_zero, List.set_cons_succ]
                have XW := RB.new W1 #[.int .i64 0, .int .i64 0, .string ⟨#[]⟩, .string ⟨#[]⟩, .int .i64 0, .bool false]
                have hx69 : V3.heap.size ≤ W1.heap.size ∧ W1.heap.size ≠ g6 := ⟨hS.bel.size, by have := hS.lt; omega⟩
                have hbl := (Below.refl W1.heap.size W1).alloc (Nat.le_refl _) (.cells #[.int .i64 0, .int .i64 0, .string ⟨#[]⟩, .string ⟨#[]⟩, .int .i64 0, .bool false] 44)
                have hS := hS.below hbl
                have GW := GW.below hbl
                clear hbl
                generalize W1.alloc _ = W2 at XW hS GW ⊢
                generalize W1.heap.size = g9 at XW hx69 ⊢
                refine only_op 3 rfl (by kernel_rfl) (by rfl) (wp_call_ex 52 14 #[.slice none 0 0] _ rfl (call1_enter rfl rfl cf_copy) (HCM.out W2 hS.bel) ?_)
                rintro e W3 ⟨A3, c3, rfl, hO0, hb⟩
                refine ⟨_, rfl, hS.below hb, ?_⟩
                simp only [Act.put, List.setIfInBounds_toArray, List.set_cons_zero, List.set_cons_succ]
                have OW := own_mono hO0 hS.bel.size
                have hS := hS.below hb
                have GW := GW.below hb
                have XW := XW.below hb
                clear hb hO0
                refine only_op 6 rfl (by kernel_rfl) (by rfl) (wp_append_mark 55 W3 (.tmp 52) (.tmp 54) rfl rfl i0 hi hz0 hz1 hz2 V3.heap.size _ _ _ rfl OW g5 (-1) 0 rfl GW (by omega) hS.bel.size (fun v' W4 hown' hgrow => ⟨hS.grown OW (Nat.le_refl _) hgrow, ?_⟩))
                simp only [Act.put, List.setIfInBounds_toArray, List.set_cons_zero, List.set_cons_succ]
                have hS := hS.grown OW (Nat.le_refl _) hgrow
                have XW := XW.grown OW hgrow
                have hO2 : W4.ownsRow V3.heap.size 42 2 v' (1) (mflat ([] ++ [⟨-1, 0⟩])) := by rw [mflat_snoc]; exact hown'
                obtain ⟨A4, c4, rfl⟩ := row_slice hO2
                have MW := MarksAt.of_ownN HL1.out hO2
                clear hown' hgrow OW GW hO2
                refine only_op 12 rfl (by kernel_rfl) (by rfl) (wp_call 61 18 #[.agg #[.int .i64 b, .slice A rs.length c], .slice A4 (1) c4, .int .i64 n] (.tuple #[.agg cZ, .int .i64 0, .int .i64 1]) (fun W => Below W4.heap.size W4 W) rfl (call3_enter rfl rfl rfl rfl cf_look) (HLK2.out A4 c4 W4 hS.bel MW) (fun W5 hb => ⟨hS.below hb, ?_⟩))
                simp only [Act.put, List.setIfInBounds_toArray, List.set_cons_zero, List.set_cons_succ]
                have hS := hS.below hb
                have XW := XW.below hb
                clear hb MW
                refine take_op 13 48 ?v72_ rfl rfl (by kernel_rfl) (fun _ _ _ h => h) (by rfl) hS (fun w' hS' => ?hv72_) ?hh72_
                case hv72_ => (go_simp; (try with_reducible rfl); (try omega))
                simp only [Act.put, List.setIfInBounds_toArray, List.set_cons_zero, List.set_cons_succ]
                refine take_op 14 62 (.agg cZ) rfl rfl (by kernel_rfl) (fun _ _ _ h => h) (by rfl) hS (fun w' hS' => ?hv73_) ?hh73_
                case hv73_ => (go_simp; (try with_reducible rfl); (try omega))
                simp only [Act.put, List.setIfInBounds_toArray, List.set_cons_zero, List.set_cons_succ]
                refine take_op 15 63 (.int .i64 0) rfl rfl (by kernel_rfl) (fun _ _ _ h => h) (by rfl) hS (fun w' hS' => ?hv74_) ?hh74_
                case hv74_ => (go_simp; (try with_reducible rfl); (try omega))
                simp only [Act.put, List.setIfInBounds_toArray, List.set_cons_zero, List.set_cons_succ]
                refine take_op 16 64 (.int .i64 1) rfl rfl (by kernel_rfl) (fun _ _ _ h => h) (by rfl) hS (fun w' hS' => ?hv75_) ?hh75_
                case hv75_ => (go_simp; (try with_reducible rfl); (try omega))
                simp only [Act.put, List.setIfInBounds_toArray, List.set_cons_zero, List.set_cons_succ]
                have hS9 := hS.row' hx69.2 hx69.1 cZ
                refine only_op 18 rfl (by kernel_rfl) (by rfl) (wp_store_row 44 (.tmp 9) (.tmp 62) rfl g9 cZ rfl rfl _ _ XW (by rw [info_rec, HZ6.out]) (by rw [HZ6.out]; rfl) HZ1.out ⟨hS9, ?_⟩)
                (try simp only [put_none])
                refine take_op 19 10 (.int .i64 0) rfl rfl (by kernel_rfl) (fun _ _ _ h => h) (by rfl) hS9 (fun w' hS' => ?hv76_) ?hh76_
                case hv76_ => (go_simp; (try with_reducible rfl); (try omega))
                simp only [Act.put, List.setIfInBounds_toArray, List.set_cons_zero, List.set_cons_succ]
                refine take_op 20 11 (.int .i64 1) rfl rfl (by kernel_rfl) (fun _ _ _ h => h) (by rfl) hS9 (fun w' hS' => ?hv77_) ?hh77_
                case hv77_ => (go_simp; (try with_reducible rfl); (try omega))
                simp only [Act.put, List.setIfInBounds_toArray, List.set_cons_zero, List.set_cons_succ]
                have hx9 := Lib.hid hS9
                refine wpAnyH_done (by kernel_rfl) ?_ _
                go_wp2_with fail
                go_meet
                exact ⟨rfl, hx9⟩
            · simp only [Act.put, List.setIfInBounds_toArray, List.set_cons_zero, List.set_cons_succ]
              have XW := RB.new W0 #[.int .i64 0, .int .i64 0, .string ⟨#[]⟩, .string ⟨#[]⟩, .int .i64 0, .bool false]
              have hx69 : V3.heap.size ≤ W0.heap.size ∧ W0.heap.size ≠ g6 := ⟨hS.bel.size, by have := hS.lt; omega⟩
              have hbl := (Below.refl W0.heap.size W0).alloc (Nat.le_refl _) (.cells #[.int .i64 0, .int .i64 0, .string ⟨#[]⟩, .string ⟨#[]⟩, .int .i64 0, .bool false] 44)
              have hS := hS.below hbl
              clear hbl
              generalize W0.alloc _ = W1 at XW hS ⊢
              generalize W0.heap.size = g9 at XW hx69 ⊢
              refine two_ops 3 5 rfl rfl (by kernel_rfl) (by rfl) (by rfl) (wp_call_ex 52 14 #[.slice none 0 0] _ rfl (call1_enter rfl rfl cf_copy) (HCM.out W1 hS.bel) ?_) (wp_made 54 (.slice (some ⟨W1.heap.size, 0, none⟩) 1 1) rfl (w' := W1.alloc (.cells #[.int .i64 (-1), .int .i64 0] 42)) (by go_simp; try rfl) ⟨hS.below ((Below.refl _ _).alloc (Nat.le_refl _) _), ?_⟩)
              · rintro e W2 ⟨A3, c3, rfl, hO0, hb⟩
                refine ⟨_, rfl, hS.below hb, ?_⟩
                simp only [Act.put, List.setIfInBounds_toArray, List.set_cons_zero, List.set_cons_succ]
                have OW := own_mono hO0 hS.bel.size
                have hS := hS.below hb
                have XW := XW.below hb
                clear hb hO0
                refine only_op 5 rfl (by kernel_rfl) (by rfl) (wp_made 54 (.slice (some ⟨W2.heap.size, 0, none⟩) 1 1) rfl (w' := W2.alloc (.cells #[.int .i64 (-1), .int .i64 0] 42)) (by go_simp; try rfl) ⟨hS.below ((Below.refl _ _).alloc (Nat.le_refl _) _), ?_⟩)
                simp only [Act.put, List.setIfInBounds_toArray, List.set_cons_zero, List.set_cons_succ]
                have GW := Blk.new W2 42 #[.int .i64 (-1), .int .i64 0]
                have hbl := (Below.refl W2.heap.size W2).alloc (Nat.le_refl _) (.cells #[.int .i64 (-1), .int .i64 0] 42)
                have hS := hS.below hbl
                have OW := own_below OW hbl
                have XW := XW.below hbl
                clear hbl
                generalize W2.alloc _ = W3 at GW hS OW XW ⊢
                generalize W2.heap.size = g5 at GW ⊢
                refine only_op 6 rfl (by kernel_rfl) (by rfl) (wp_append_mark 55 W3 (.tmp 52) (.tmp 54) rfl rfl i0 hi hz0 hz1 hz2 V3.heap.size _ _ _ rfl OW g5 (-1) 0 rfl GW (by omega) hS.bel.size (fun v' W4 hown' hgrow => ⟨hS.grown OW (Nat.le_refl _) hgrow, ?_⟩))
                simp only [Act.put, List.setIfInBounds_toArray, List.set_cons_zero, List.set_cons_succ]
                have hS := hS.grown OW (Nat.le_refl _) hgrow
                have XW := XW.grown OW hgrow
                have hO2 : W4.ownsRow V3.heap.size 42 2 v' (1) (mflat ([] ++ [⟨-1, 0⟩])) := by rw [mflat_snoc]; exact hown'
                obtain ⟨A4, c4, rfl⟩ := row_slice hO2
                have MW := MarksAt.of_ownN HL1.out hO2
                clear hown' hgrow OW GW hO2
                refine only_op 12 rfl (by kernel_rfl) (by rfl) (wp_call 61 18 #[.agg #[.int .i64 b, .slice A rs.length c], .slice A4 (1) c4, .int .i64 n] (.tuple #[.agg cZ, .int .i64 0, .int .i64 1]) (fun W => Below W4.heap.size W4 W) rfl (call3_enter rfl rfl rfl rfl cf_look) (HLK2.out A4 c4 W4 hS.bel MW) (fun W5 hb => ⟨hS.below hb, ?_⟩))
                simp only [Act.put, List.setIfInBounds_toArray, List.set_cons_zero, List.set_cons_succ]
                have hS := hS.below hb
                have XW := XW.below hb
                clear hb MW
                refine take_op 13 48 ?v78_ rfl rfl (by kernel_rfl) (fun _ _ _ h => h) (by rfl) hS (fun w' hS' => ?hv78_) ?hh78_
                case hv78_ => (go_simp; (try with_reducible rfl); (try omega))
                simp only [Act.put, List.setIfInBounds_toArray, List.set_cons_zero, List.set_cons_succ]
                refine take_op 14 62 (.agg cZ) rfl rfl (by kernel_rfl) (fun _ _ _ h => h) (by rfl) hS (fun w' hS' => ?hv79_) ?hh79_
                case hv79_ => (go_simp; (try with_reducible rfl); (try omega))
                simp only [Act.put, List.setIfInBounds_toArray, List.set_cons_zero, List.set_cons_succ]
                refine take_op 15 63 (.int .i64 0) rfl rfl (by kernel_rfl) (fun _ _ _ h => h) (by rfl) hS (fun w' hS' => ?hv80_) ?hh80_
                case hv80_ => (go_simp; (try with_reducible rfl); (try omega))
                simp only [Act.put, List.setIfInBounds_toArray, List.set_cons_zero, List.set_cons_succ]
                refine take_op 16 64 (.int .i64 1) rfl rfl (by kernel_rfl) (fun _ _ _ h => h) (by rfl) hS (fun w' hS' => ?hv81_) ?hh81_
                case hv81_ => (go_simp; (try with_reducible rfl); (try omega))
                simp only [Act.put, List.setIfInBounds_toArray, List.set_cons_zero, List.set_cons_succ]
                have hS9 := hS.row' hx69.2 hx69.1 cZ
                refine only_op 18 rfl (by kernel_rfl) (by rfl) (wp_store_row 44 (.tmp 9) (.tmp 62) rfl g9 cZ rfl rfl _ _ XW (by rw [info_rec, HZ6.out]) (by rw [HZ6.out]; rfl) HZ1.out ⟨hS9, ?_⟩)
                (try simp only [put_none])
                refine take_op 19 10 (.int .i64 0) rfl rfl (by kernel_rfl) (fun _ _ _ h => h) (by rfl) hS9 (fun w' hS' => ?hv82_) ?hh82_
                case hv82_ => (go_simp; (try with_reducible rfl); (try omega))
                simp only [Act.put, List.setIfInBounds_toArray, List.set_cons_zero, List.set_cons_succ]
                refine take_op 20 11 (.int .i64 1) rfl rfl (by kernel_rfl) (fun _ _ _ h => h) (by rfl) hS9 (fun w' hS' => ?hv83_) ?hh83_
                case hv83_ => (go_simp; (try with_reducible rfl); (try omega))
                simp only [Act.put, List.setIfInBounds_toArray, List.set_cons_zero, List.set_cons_succ]
                have hx9 := Lib.hid hS9
                refine wpAnyH_done (by kernel_rfl) ?_ _
                go_wp2_with fail
                go_meet
                exact ⟨rfl, hx9⟩
              · simp only [Act.put, List.setIfInBounds_toArray, List.set_cons_zero, List.set_cons_succ]
                have GW := Blk.new W1 42 #[.int .i64 (-1), .int .i64 0]
                have hbl := (Below.refl W1.heap.size W1).alloc (Nat.le_refl _) (.cells #[.int .i64 (-1), .int .i64 0] 42)
                have hS := hS.below hbl
                have XW := XW.below hbl
                clear hbl
                generalize W1.alloc _ = W2 at GW hS XW ⊢
                generalize W1.heap.size = g5 at GW ⊢
                refine only_op 3 rfl (by kernel_rfl) (by rfl) (wp_call_ex 52 14 #[.slice none 0 0] _ rfl (call1_enter rfl rfl cf_copy) (HCM.out W2 hS.bel) ?_)
                rintro e W3 ⟨A3, c3, rfl, hO0, hb⟩
                refine ⟨_, rfl, hS.below hb, ?_⟩
                simp only [Act.put, List.setIfInBounds_toArray, List.set_cons_zero, List.set_cons_succ]
                have OW := own_mono hO0 hS.bel.size
                have hS := hS.below hb
                have GW := GW.below hb
                have XW := XW.below hb
                clear hb hO0
                refine only_op 6 rfl (by kernel_rfl) (by rfl) (wp_append_mark 55 W3 (.tmp 52) (.tmp 54) rfl rfl i0 hi hz0 hz1 hz2 V3.heap.size _ _ _ rfl OW g5 (-1) 0 rfl GW (by omega) hS.bel.size (fun v' W4 hown' hgrow => ⟨hS.grown OW (Nat.le_refl _) hgrow, ?_⟩))
                simp only [Act.put, List.setIfInBounds_toArray, List.set_cons_zero, List.set_cons_succ]
                have hS := hS.grown OW (Nat.le_refl _) hgrow
                have XW := XW.grown OW hgrow
                have hO2 : W4.ownsRow V3.heap.size 42 2 v' (1) (mflat ([] ++ [⟨-1, 0⟩])) := by rw [mflat_snoc]; exact hown'
                obtain ⟨A4, c4, rfl⟩ := row_slice hO2
                have MW := MarksAt.of_ownN HL1.out hO2
                clear hown' hgrow OW GW hO2
                refine only_op 12 rfl (by kernel_rfl) (by rfl) (wp_call 61 18 #[.agg #[.int .i64 b, .slice A rs.length c], .slice A4 (1) c4, .int .i64 n] (.tuple #[.agg cZ, .int .i64 0, .int .i64 1]) (fun W => Below W4.heap.size W4 W) rfl (call3_enter rfl rfl rfl rfl cf_look) (HLK2.out A4 c4 W4 hS.bel MW) (fun W5 hb => ⟨hS.below hb, ?_⟩))
                simp only [Act.put, List.setIfInBounds_toArray, List.set_cons_zero, List.set_cons_succ]
                have hS := hS.below hb
                have XW := XW.below hb
                clear hb MW
                refine take_op 13 48 ?v84_ rfl rfl (by kernel_rfl) (fun _ _ _ h => h) (by rfl) hS (fun w' hS' => ?hv84_) ?hh84_
                case hv84_ => (go_simp; (try with_reducible rfl); (try omega))
                simp only [Act.put, List.setIfInBounds_toArray, List.set_cons_zero, List.set_cons_succ]
                refine take_op 14 62 (.agg cZ) rfl rfl (by kernel_rfl) (fun _ _ _ h => h) (by rfl) hS (fun w' hS' => ?hv85_) ?hh85_
                case hv85_ => (go_simp; (try with_reducible rfl); (try omega))
                simp only [Act.put, List.setIfInBounds_toArray, List.set_cons_zero, List.set_cons_succ]
                refine take_op 15 63 (.int .i64 0) rfl rfl (by kernel_rfl) (fun _ _ _ h => h) (by rfl) hS (fun w' hS' => ?hv86_) ?hh86_
                case hv86_ => (go_simp; (try with_reducible rfl); (try omega))
                simp only [Act.put, List.setIfInBounds_toArray, List.set_cons_zero, List.set_cons_succ]
                refine take_op 16 64 (.int .i64 1) rfl rfl (by kernel_rfl) (fun _ _ _ h => h) (by rfl) hS (fun w' hS' => ?hv87_) ?hh87_
                case hv87_ => (go_simp; (try with_reducible rfl); (try omega))
                simp only [Act.put, List.setIfInBounds_toArray, List.set_cons_zero, List.set_cons_succ]
                have hS9 := hS.row' hx69.2 hx69.1 cZ
                refine only_op 18 rfl (by kernel_rfl) (by rfl) (wp_store_row 44 (.tmp 9) (.tmp 62) rfl g9 cZ rfl rfl _ _ XW (by rw [info_rec, HZ6.out]) (by rw [HZ6.out]; rfl) HZ1.out ⟨hS9, ?_⟩)
                (try simp only [put_none])
                refine take_op 19 10 (.int .i64 0) rfl rfl (by kernel_rfl) (fun _ _ _ h => h) (by rfl) hS9 (fun w' hS' => ?hv88_) ?hh88_
                case hv88_ => (go_simp; (try with_reducible rfl); (try omega))
                simp only [Act.put, List.setIfInBounds_toArray, List.set_cons_zero, List.set_cons_succ]
                refine take_op 20 11 (.int .i64 1) rfl rfl (by kernel_rfl) (fun _ _ _ h => h) (by rfl) hS9 (fun w' hS' => ?hv89_) ?hh89_
                case hv89_ => (go_simp; (try with_reducible rfl); (try omega))
                simp only [Act.put, List.setIfInBounds_toArray, List.set_cons_zero, List.set_cons_succ]
                have hx9 := Lib.hid hS9
                refine wpAnyH_done (by kernel_rfl) ?_ _
                go_wp2_with fail
                go_meet
                exact ⟨rfl, hx9⟩
          case rest =>
            obtain ⟨rfl, T11⟩ := hcut
            clear T10 HCM HLC HLK2
            obtain ⟨rfl, rfl⟩ := HPE.out
            go_wp2_with (go_at_call 10; refine (num_is _ _).mono ?_; rintro e w' ⟨rfl, rfl⟩)
            go_roundw
            case rel => exact ⟨k + 1, h2, h1, by go_num, Below.step HBV.out T11.out.bel⟩
            case measure => simp [RowKit.intOf]; omega
      · by_cases h1 : k < ns.length
        · have h2 : ¬ k < 20 := fun h => hgo ⟨h1, h⟩
          clear hgo
          go_wp2_with (first | (go_at_call 20; refine (HWI.out _).mono ?_; rintro e w' ⟨rfl, rfl⟩) | (go_at_call 11; refine (HWK.out _).mono ?_; rintro e w9 ⟨rfl, hb9⟩))
          go_ret
          exact ⟨rfl, Below.step (Below.step RV.out.out.2 HBV.out) hb9⟩
        · clear hgo
          go_wp2_with (first | (go_at_call 20; refine (HWI.out _).mono ?_; rintro e w' ⟨rfl, rfl⟩) | (go_at_call 11; refine (HWK.out _).mono ?_; rintro e w9 ⟨rfl, hb9⟩))
          go_ret
          exact ⟨rfl, Below.step (Below.step RV.out.out.2 HBV.out) hb9⟩
end Go.Proofs.Ytijpieaanlnibaa.Mkd
