/- Texts of the proof, part 4: RcFirst, RcTaken, SgParse, RcEqRecs, SgRCopy, SgRWith, SgRSeg, RcRLeaf, RcBytes, SumRef. -/
import Derived.Test.YthhpmhibkbndhaaDoorQ03
/- Package rec: what bytes begin with; a record taken. -/
namespace Go.Proofs.YthhpmhibkbndhaaDoor
open Go.RowKit Go.Lib Vbi Rcd Crc

/-- A whole record and how many bytes it has, as a value. -/
def warr (o t : Int) (k b : ByteArray) (q : Int) (g : Bool) (n : Int) : Array Value := #[.int .i64 o, .int .i64 t, .string k, .string b, .int .i64 q, .bool g, .int .i64 n]
def firstV (x : Rc × Nat × Int) : Value := if x.2.2 = 0 then .iface 91 (.agg (warr x.1.o x.1.t (str x.1.k) (str x.1.b) x.1.q x.1.g (x.2.1 : Int))) else .iface 32 (.int .i64 x.2.2)
theorem firstV_ok (R : Rc) (n : Nat) : firstV (R, n, 0) = .iface 91 (.agg (warr R.o R.t (str R.k) (str R.b) R.q R.g (n : Int))) := by unfold firstV; rw [if_pos rfl]
theorem firstV_bad (R : Rc) (n : Nat) (E : Int) (h : ¬ E = 0) : firstV (R, n, E) = .iface 32 (.int .i64 E) := by unfold firstV; rw [if_neg h]

/-- The five ways that bytes may begin. -/
theorem take_ways (l : List UInt8) (n F N : Nat) (hn : fixVal (l.take 2) = n) (hF : fixVal ((l.drop 2).take 4) = F) (hN : sumN 0 (l.take 2 ++ (l.drop 6).take n) = N) : (l.length < 6 ∧ takeR l = (zero, 0, 7)) ∨ (6 ≤ l.length ∧ l.length < 6 + n ∧ takeR l = (zero, 0, 7)) ∨
    (6 ≤ l.length ∧ 6 + n ≤ l.length ∧ ¬ F = N ∧ takeR l = (zero, 0, 8)) ∨
    (6 ≤ l.length ∧ 6 + n ≤ l.length ∧ F = N ∧ ¬ (parse ((l.drop 6).take n)).2 = 0 ∧ takeR l = (zero, 0, 8)) ∨
    (6 ≤ l.length ∧ 6 + n ≤ l.length ∧ F = N ∧ (parse ((l.drop 6).take n)).2 = 0 ∧ takeR l = ((parse ((l.drop 6).take n)).1, 6 + n, 0)) := by
  unfold takeR
  rw [hn, hF, hN]
  by_cases c1 : l.length < 6
  · rw [if_pos c1]; exact .inl ⟨c1, rfl⟩
  · rw [if_neg c1]
    by_cases c2 : l.length < 6 + n
    · rw [if_pos c2]; exact .inr (.inl ⟨by omega, c2, rfl⟩)
    · rw [if_neg c2]
      by_cases c3 : F = N
      · rw [if_pos c3]
        by_cases c4 : (parse ((l.drop 6).take n)).2 = 0
        · rw [if_pos c4]; exact .inr (.inr (.inr (.inr ⟨by omega, by omega, c3, c4, rfl⟩)))
        · rw [if_neg c4]; exact .inr (.inr (.inr (.inl ⟨by omega, by omega, c3, c4, rfl⟩)))
      · rw [if_neg c3]; exact .inr (.inr (.inl ⟨by omega, by omega, c3, rfl⟩))

theorem ext_drop (s : ByteArray) (a : Nat) (h : a ≤ s.size) : (s.extract a s.size).data.toList = s.data.toList.drop a := by
  rw [Lib.extract_data]; exact List.take_of_length_le (by rw [List.length_drop, size_list]; omega)
theorem ext_take (s : ByteArray) (a : Nat) : (s.extract 0 a).data.toList = s.data.toList.take a := by
  rw [Lib.extract_data, List.drop_zero, Nat.sub_zero]
theorem ext_mid (s : ByteArray) (a n : Nat) : (s.extract a (a + n)).data.toList = (s.data.toList.drop a).take n := by
  rw [Lib.extract_data, show a + n - a = n by omega]

set_option maxRecDepth 100000 in
set_option maxHeartbeats 4000000 in
/-- rec.first. -/
theorem first_is (s : ByteArray) (V : Value) (w : World) (hm : s.size ≤ 1000000) (ht : Tab w) (h : firstV (takeR s.data.toList) = V) :
    Calls Tryd.prog 51 #[.string s] w fun e w' => e = .returned V ∧ Below w.heap.size w w' := by
  have hl := size_list s
  have HTab := Lib.hid ht
  clear ht
  obtain ⟨n, hn⟩ : ∃ n, fixVal (s.data.toList.take 2) = n := ⟨_, rfl⟩
  obtain ⟨F, hF⟩ : ∃ F, fixVal ((s.data.toList.drop 2).take 4) = F := ⟨_, rfl⟩
  obtain ⟨N, hN⟩ : ∃ N, sumN 0 (s.data.toList.take 2 ++ (s.data.toList.drop 6).take n) = N := ⟨_, rfl⟩
  have hn16 : n < 65536 := by rw [← hn]; exact fixVal_two _
  rcases take_ways s.data.toList n F N hn hF hN with ⟨h1, e⟩ | ⟨h1, h2, e⟩ | ⟨h1, h2, h3, e⟩ | ⟨h1, h2, h3, h4, e⟩ | ⟨h1, h2, h3, h4, e⟩
  · rw [e, firstV_bad _ _ _ (by decide)] at h
    subst h
    have hd : decide ((s.size : Int) < 6) = true := by rw [decide_eq_true_eq]; omega
    clear e h1 hl hn hF hN
    go_enter Tryd.func51, Tryd.ntmps51
    go_wp2_with fail
    go_ret
    exact ⟨rfl, Below.refl _ _⟩
  all_goals
    have HT2 := Lib.hid (fun W => TakeTwo_good s n W (by omega) (by omega) hn)
    have hd : decide ((s.size : Int) < 6) = false := by rw [decide_eq_false_iff_not]; omega
  · rw [e, firstV_bad _ _ _ (by decide)] at h
    subst h
    have hd2 : decide ((s.size : Int) < 6 + (n : Int)) = true := by rw [decide_eq_true_eq]; omega
    clear e h1 hl hn h2 hF hN
    go_enter Tryd.func51, Tryd.ntmps51
    go_wp2_with fail
    refine (HT2.out _).mono ?_
    rintro e w1 ⟨rfl, rfl⟩
    go_wp2_with fail
    go_ret
    exact ⟨rfl, Below.refl _ _⟩
  all_goals
    have HT4 := Lib.hid (fun W => TakeFour_good (s.extract 2 s.size) F W (by rw [ByteArray.size_extract]; omega) (by rw [ByteArray.size_extract]; omega) (by rw [ext_drop s 2 (by omega)]; exact hF))
    have HSL := Lib.hid (fun W (ht : Tab W) => sealOf_is (s.extract 0 2) (s.extract 6 (6 + n)) N W (by rw [ByteArray.size_extract]; omega) (by rw [ByteArray.size_extract]; omega) ht (by rw [ext_take, ext_mid]; exact hN))
    have hd2 : decide ((s.size : Int) < 6 + (n : Int)) = false := by rw [decide_eq_false_iff_not]; omega
    have h2I : (2 : Int) ≤ (s.size : Int) := by omega
    have h6I : 6 + (n : Int) ≤ (s.size : Int) := by omega
    have h60 : (6 : Int) ≤ 6 + (n : Int) := by omega
  · rw [e, firstV_bad _ _ _ (by decide)] at h
    subst h
    have hne : ((F : Int) != (N : Int)) = true := by rw [bne_iff_ne]; omega
    have hne2 : ¬ (F : Int) = (N : Int) := by omega
    clear e h1 hl hn h2 h3 hF hN
    go_enter Tryd.func51, Tryd.ntmps51
    go_wp2_with fail
    refine (HT2.out _).mono ?_
    rintro e w1 ⟨rfl, rfl⟩
    go_wp2_with fail
    refine (HT4.out _).mono ?_
    rintro e w1 ⟨rfl, rfl⟩
    go_wp2_with fail
    refine (HSL.out _ HTab.out).mono ?_
    rintro e w1 ⟨rfl, hb1⟩
    go_wp2_with fail
    go_ret
    exact ⟨rfl, hb1⟩
  all_goals
    subst h3
    obtain ⟨R, E, hP⟩ : ∃ R E, parse ((s.data.toList.drop 6).take n) = (R, E) := ⟨_, _, rfl⟩
    rw [hP] at h4
    dsimp only at h4
    have HTB := Lib.hid (fun W => takeBody_is (s.extract 6 (6 + n)) R E W (by rw [ByteArray.size_extract]; omega) (by rw [ext_mid]; exact hP))
    unfold ragg at HTB
    obtain ⟨o, t, k, b, q, g⟩ := R
    dsimp only at HTB
  · rw [e, firstV_bad _ _ _ (by decide)] at h
    subst h
    have hne2 : (E != 0) = true := by rw [bne_iff_ne]; exact h4
    clear e h1 hl hn h2 hF hN hP
    generalize str k = ks at HTB ⊢
    generalize str b = bs at HTB ⊢
    go_enter Tryd.func51, Tryd.ntmps51
    go_wp2_with fail
    refine (HT2.out _).mono ?_
    rintro e w1 ⟨rfl, rfl⟩
    go_wp2_with fail
    refine (HT4.out _).mono ?_
    rintro e w1 ⟨rfl, rfl⟩
    go_wp2_with fail
    refine (HSL.out _ HTab.out).mono ?_
    rintro e w1 ⟨rfl, hb1⟩
    have HB1 := Lib.hid hb1
    clear hb1 HSL HT2 HT4 HTab
    go_wp2_with fail
    refine (HTB.out _).mono ?_
    rintro e w2 ⟨rfl, hb2⟩
    have HB2 := Lib.hid (HB1.out.trans (hb2.mono HB1.out.size))
    clear hb2 HB1 HTB
    have hbn := Blk.new w2 42 zcells
    have hbl := HB2.out.alloc HB2.out.size (.cells zcells 42)
    obtain ⟨g9, hg9⟩ : ∃ k, w2.heap.size = k := ⟨_, rfl⟩
    obtain ⟨W4, hW4⟩ : ∃ W, w2.alloc (.cells zcells 42) = W := ⟨_, rfl⟩
    have hg9w : w.heap.size ≤ g9 := by rw [← hg9]; exact HB2.out.size
    rw [hW4, hg9] at hbn
    rw [hW4] at hbl
    have HBN := Lib.hid hbn
    have HBL := Lib.hid (below_row hbl hg9w (rarr o t ks bs q g))
    have HBR := Lib.hid (hbn.row (rarr o t ks bs q g))
    unfold zcells at hW4
    have HW4 := Lib.hid hW4
    clear hbn hbl hW4 HB2
    go_upto_region 12 with (rw [HW4.out]; refine wpList_store_whole rfl 42 (.tmp 9) (.tmp 46) rfl g9 (rarr o t ks bs q g) rfl rfl zcells HBN.out info_rec rfl (one_arr _ _ _ _ _ _) ?_; simp only [Act.put])
    clear hg9 HW4 HBN
    generalize World.setRow _ _ _ = w5 at HBL HBR ⊢
    clear HBR
    go_wp2_with fail
    go_ret
    exact ⟨rfl, HBL.out⟩
  · rw [e, hP, firstV_ok] at h
    subst h4
    clear e h1 hl hn h2 hF hN hP
    unfold warr at h
    dsimp only at h
    have hnn : ((6 + n : Nat) : Int) = 6 + (n : Int) := by omega
    rw [hnn] at h
    clear hnn
    generalize str k = ks at HTB h
    generalize str b = bs at HTB h
    go_enter Tryd.func51, Tryd.ntmps51
    go_wp2_with fail
    refine (HT2.out _).mono ?_
    rintro e w1 ⟨rfl, rfl⟩
    go_wp2_with fail
    refine (HT4.out _).mono ?_
    rintro e w1 ⟨rfl, rfl⟩
    go_wp2_with fail
    refine (HSL.out _ HTab.out).mono ?_
    rintro e w1 ⟨rfl, hb1⟩
    have HB1 := Lib.hid hb1
    clear hb1 HSL HT2 HT4 HTab
    go_wp2_with fail
    refine (HTB.out _).mono ?_
    rintro e w2 ⟨rfl, hb2⟩
    have HB2 := Lib.hid (HB1.out.trans (hb2.mono HB1.out.size))
    clear hb2 HB1 HTB
    have hbn := Blk.new w2 42 zcells
    have hbl := HB2.out.alloc HB2.out.size (.cells zcells 42)
    obtain ⟨g9, hg9⟩ : ∃ k, w2.heap.size = k := ⟨_, rfl⟩
    obtain ⟨W4, hW4⟩ : ∃ W, w2.alloc (.cells zcells 42) = W := ⟨_, rfl⟩
    have hg9w : w.heap.size ≤ g9 := by rw [← hg9]; exact HB2.out.size
    rw [hW4, hg9] at hbn
    rw [hW4] at hbl
    have HBN := Lib.hid hbn
    have HBL := Lib.hid (below_row hbl hg9w (rarr o t ks bs q g))
    have HBR := Lib.hid (hbn.row (rarr o t ks bs q g))
    unfold zcells at hW4
    have HW4 := Lib.hid hW4
    clear hbn hbl hW4 HB2
    go_upto_region 12 with (rw [HW4.out]; refine wpList_store_whole rfl 42 (.tmp 9) (.tmp 46) rfl g9 (rarr o t ks bs q g) rfl rfl zcells HBN.out info_rec rfl (one_arr _ _ _ _ _ _) ?_; simp only [Act.put])
    clear hg9 HW4 HBN
    generalize World.setRow _ _ _ = w5 at HBL HBR ⊢
    have hld := load_blk HBR.out rfl
    subst h
    generalize Value.tuple _ = vt
    unfold rarr at hld
    clear HBR
    go_wp2_with (refine wpList_load_any (by rfl) 42 (.tmp 9) rfl g9 0 rfl _ hld ?_; simp only [Act.put])
    go_ret
    exact ⟨rfl, HBL.out⟩
end Go.Proofs.YthhpmhibkbndhaaDoor
/- Package rec: a record taken. -/
namespace Go.Proofs.YthhpmhibkbndhaaDoor
open Go.RowKit Go.Lib Vbi Rcd Crc

theorem as_whole (v : Value) (w : World) : (Instr.typeAssert (.iface 91 v) 20 91 true).run Tryd.prog w = .ok (.tuple #[v, .bool true]) w := by kernel_rfl
theorem not_whole (v : Value) (w : World) : (Instr.typeAssert (.iface 32 v) 20 91 true).run Tryd.prog w = .ok (.tuple #[.agg (warr 0 0 ⟨#[]⟩ ⟨#[]⟩ 0 false 0), .bool false]) w := by kernel_rfl
theorem as_errno (v : Value) (w : World) : (Instr.typeAssert (.iface 32 v) 20 32 false).run Tryd.prog w = .ok v w := by kernel_rfl
theorem info_whole : (Tryd.prog.info? 91).map (·.size) = some 7 := by kernel_rfl
theorem one_whole (o t : Int) (k b : ByteArray) (q : Int) (g : Bool) (n : Int) : (warr o t k b q g n).all (·.oneCell') = true := by simp [warr, Value.oneCell']
/-- The record within a whole one, read. -/
theorem load_whole {W : World} {g : Nat} {o t : Int} {k b : ByteArray} {q : Int} {h : Bool} {n : Int} (hb : Blk W g (warr o t k b q h n)) : (loadVar 42 ⟨g, 0, none⟩).run Tryd.prog W = .ok (.agg (rarr o t k b q h)) W :=
  run_loadVar_mid W g 0 42 (rarr o t k b q h).toList _ (fun j v hv => by
    rw [Nat.zero_add, hb.cell j]
    match j, hv with
    | 0, hv => exact hv
    | 1, hv => exact hv
    | 2, hv => exact hv
    | 3, hv => exact hv
    | 4, hv => exact hv
    | 5, hv => exact hv) Tryd.underlying42 rfl (by rw [info_rec]; rfl)

set_option maxRecDepth 100000 in
set_option maxHeartbeats 4000000 in
theorem Take_bad (s : ByteArray) (E : Int) (w : World)
    (h : ∀ W, Below w.heap.size w W → Calls Tryd.prog 51 #[.string s] W fun e w' => e = .returned (.iface 32 (.int .i64 E)) ∧ Below W.heap.size W w') :
    Calls Tryd.prog 39 #[.string s] w fun e w' => e = .returned (.tuple #[.agg zcells, .int .i64 0, .int .i64 E]) ∧ Below w.heap.size w w' := by
  have hnw := not_whole
  have hae := as_errno
  unfold warr at hnw
  have R0 := Lib.hid (RBox.new w 42 zcells)
  have H := Lib.hid h
  obtain ⟨W0, hW⟩ : ∃ W0, w.alloc (.cells zcells 42) = W0 := ⟨_, rfl⟩
  rw [hW] at R0
  unfold zcells at hW
  have HW := Lib.hid hW
  clear hW h
  go_enter Tryd.func39, Tryd.ntmps39
  go_upto_region 1 with fail
  rw [HW.out]
  clear HW
  obtain ⟨p, hp⟩ : ∃ p, w.heap.size = p := ⟨_, rfl⟩
  have hpw : w.heap.size ≤ p := Nat.le_of_eq hp
  rw [hp] at R0
  rw [hp]
  clear hp
  go_wp2_with fail
  refine (H.out _ R0.out.out.2).mono ?_
  rintro e w1 ⟨rfl, hb1⟩
  have R1 := Lib.hid (R0.out.below hb1)
  clear R0 hb1 H
  have hbn := Blk.new w1 91 (warr 0 0 ⟨#[]⟩ ⟨#[]⟩ 0 false 0)
  have hbl : Below w1.heap.size w1 (w1.alloc (.cells (warr 0 0 ⟨#[]⟩ ⟨#[]⟩ 0 false 0) 91)) := (Below.refl _ _).alloc (Nat.le_refl _) _
  obtain ⟨g9, hg9⟩ : ∃ k, w1.heap.size = k := ⟨_, rfl⟩
  have hpg : p < g9 := by rw [← hg9]; exact R1.out.out.1.lt
  obtain ⟨W4, hW4⟩ : ∃ W, w1.alloc (.cells (warr 0 0 ⟨#[]⟩ ⟨#[]⟩ 0 false 0) 91) = W := ⟨_, rfl⟩
  rw [hW4] at hbl hbn
  rw [hg9] at hbn
  have R4 := R1.out.below hbl
  have HBN := Lib.hid hbn
  have HR5 := Lib.hid (RBox.mk (blk_row_far R4.out.1 (by omega) (warr 0 0 ⟨#[]⟩ ⟨#[]⟩ 0 false 0)) (below_row R4.out.2 (by omega) (warr 0 0 ⟨#[]⟩ ⟨#[]⟩ 0 false 0)) : RBox w p zcells (W4.setRow g9 (warr 0 0 ⟨#[]⟩ ⟨#[]⟩ 0 false 0)))
  unfold warr at hW4
  have HW4 := Lib.hid hW4
  clear hbn hbl hW4 R1 R4
  unfold warr at HBN HR5
  go_upto_region 4 with (rw [HW4.out]; refine wpList_store_whole rfl 91 (.tmp 6) (.tmp 13) rfl g9 _ rfl rfl _ HBN.out info_whole rfl (by simp [Value.oneCell']) ?_; simp only [Act.put])
  clear hg9 HW4 HBN
  generalize World.setRow _ _ _ = w5 at HR5 ⊢
  have R5 := Lib.hid (HR5.out.drewN 1)
  have R6 := Lib.hid (show Blk ((w5.drewN 1).setRow p zcells) p zcells ∧ Below w.heap.size w ((w5.drewN 1).setRow p zcells) from ⟨R5.out.out.1.row _, below_row R5.out.out.2 hpw _⟩)
  clear HR5
  refine wp_region_held_drew (S := fun _ => True) (by kernel_rfl) trivial (fun hS => ?_)
  change wpAnyH _ _ _ _ _ _ _ _ (w5.drewN 1)
  generalize w5.drewN 1 = Wd at R5 R6 ⊢
  refine take_op 0 17 (.agg zcells) rfl rfl (by kernel_rfl) (fun _ _ _ h => h) (by rfl) trivial (fun w' hS' => ?hv0) ?hh0
  case hv0 => (unfold zcells; go_simp; try with_reducible rfl)
  simp only [Act.put, List.setIfInBounds_toArray, List.set_cons_zero, List.set_cons_succ]
  refine take_op 1 18 ?v1 rfl rfl (by kernel_rfl) (fun _ _ _ h => h) (by rfl) trivial (fun w' hS' => ?hv1) ?hh1
  case hv1 => (go_simp; try with_reducible rfl)
  simp only [Act.put, List.setIfInBounds_toArray, List.set_cons_zero, List.set_cons_succ]
  refine take_op 2 19 ?v2 rfl rfl (by kernel_rfl) (fun _ _ _ h => h) (by rfl) trivial (fun w' hS' => ?hv2) ?hh2
  case hv2 => (go_simp; try with_reducible rfl)
  simp only [Act.put, List.setIfInBounds_toArray, List.set_cons_zero, List.set_cons_succ]
  obtain ⟨T, hpT⟩ := R5.out.out.1
  refine only_op 3 rfl (by kernel_rfl) (by rfl) (wp_store_row 42 (.tmp 2) (.tmp 17) rfl p zcells rfl rfl T _ hpT info_rec rfl one_zero ⟨trivial, ?_⟩)
  simp only [Act.put]
  refine take_op 4 3 ?v4 rfl rfl (by kernel_rfl) (fun _ _ _ h => h) (by rfl) trivial (fun w' hS' => ?hv4) ?hh4
  case hv4 => (go_simp; try with_reducible rfl)
  simp only [Act.put, List.setIfInBounds_toArray, List.set_cons_zero, List.set_cons_succ]
  refine take_op 5 4 ?v5 rfl rfl (by kernel_rfl) (fun _ _ _ h => h) (by rfl) trivial (fun w' hS' => ?hv5) ?hh5
  case hv5 => (go_simp; try with_reducible rfl)
  simp only [Act.put, List.setIfInBounds_toArray, List.set_cons_zero, List.set_cons_succ]
  refine wpAnyH_done (by kernel_rfl) ?_ _
  clear hpT R5 hS
  go_wp2_with fail
  refine bodyPost_ret (results_rec3 Tryd.results39 rfl R6.out.1 rfl rfl rfl) rfl ⟨rfl, R6.out.2⟩

set_option maxRecDepth 100000 in
set_option maxHeartbeats 4000000 in
theorem Take_good (s : ByteArray) (o t : Int) (k b : ByteArray) (q : Int) (gn : Bool) (n : Int) (w : World)
    (h : ∀ W, Below w.heap.size w W → Calls Tryd.prog 51 #[.string s] W fun e w' => e = .returned (.iface 91 (.agg (warr o t k b q gn n))) ∧ Below W.heap.size W w') :
    Calls Tryd.prog 39 #[.string s] w fun e w' => e = .returned (.tuple #[.agg (rarr o t k b q gn), .int .i64 n, .int .i64 0]) ∧ Below w.heap.size w w' := by
  have haw := as_whole (.agg (warr o t k b q gn n))
  unfold warr at haw
  have R0 := Lib.hid (RBox.new w 42 zcells)
  unfold warr at h
  have H := Lib.hid h
  obtain ⟨W0, hW⟩ : ∃ W0, w.alloc (.cells zcells 42) = W0 := ⟨_, rfl⟩
  rw [hW] at R0
  unfold zcells at hW
  have HW := Lib.hid hW
  clear hW h
  go_enter Tryd.func39, Tryd.ntmps39
  go_upto_region 1 with fail
  rw [HW.out]
  clear HW
  obtain ⟨p, hp⟩ : ∃ p, w.heap.size = p := ⟨_, rfl⟩
  have hpw : w.heap.size ≤ p := Nat.le_of_eq hp
  rw [hp] at R0
  rw [hp]
  clear hp
  go_wp2_with fail
  refine (H.out _ R0.out.out.2).mono ?_
  rintro e w1 ⟨rfl, hb1⟩
  have R1 := Lib.hid (R0.out.below hb1)
  clear R0 hb1 H
  have hbn := Blk.new w1 91 (warr 0 0 ⟨#[]⟩ ⟨#[]⟩ 0 false 0)
  have hbl : Below w1.heap.size w1 (w1.alloc (.cells (warr 0 0 ⟨#[]⟩ ⟨#[]⟩ 0 false 0) 91)) := (Below.refl _ _).alloc (Nat.le_refl _) _
  obtain ⟨g9, hg9⟩ : ∃ k, w1.heap.size = k := ⟨_, rfl⟩
  have hpg : p < g9 := by rw [← hg9]; exact R1.out.out.1.lt
  obtain ⟨W4, hW4⟩ : ∃ W, w1.alloc (.cells (warr 0 0 ⟨#[]⟩ ⟨#[]⟩ 0 false 0) 91) = W := ⟨_, rfl⟩
  rw [hW4] at hbl hbn
  rw [hg9] at hbn
  have R4 := R1.out.below hbl
  have HBN := Lib.hid hbn
  have HR5 := Lib.hid (RBox.mk (blk_row_far R4.out.1 (by omega) (warr o t k b q gn n)) (below_row R4.out.2 (by omega) (warr o t k b q gn n)) : RBox w p zcells (W4.setRow g9 (warr o t k b q gn n)))
  have HG5 := Lib.hid (hbn.row (warr o t k b q gn n))
  unfold warr at hW4
  have HW4 := Lib.hid hW4
  clear hbn hbl hW4 R1 R4
  unfold warr at HBN HR5 HG5
  go_upto_region 5 with (rw [HW4.out]; refine wpList_store_whole rfl 91 (.tmp 6) (.tmp 13) rfl g9 _ rfl rfl _ HBN.out info_whole rfl (by simp [Value.oneCell']) ?_; simp only [Act.put])
  clear hg9 HW4 HBN
  generalize World.setRow _ _ _ = w5 at HR5 HG5 ⊢
  have R5 := Lib.hid (HR5.out.drewN 1)
  have hG : Blk (w5.drewN 1) g9 (warr o t k b q gn n) := HG5.out
  have R6 := Lib.hid (show Blk ((w5.drewN 1).setRow p (rarr o t k b q gn)) p (rarr o t k b q gn) ∧ Below w.heap.size w ((w5.drewN 1).setRow p (rarr o t k b q gn)) from ⟨R5.out.out.1.row _, below_row R5.out.out.2 hpw _⟩)
  have hG6 : Blk ((w5.drewN 1).setRow p (rarr o t k b q gn)) g9 (warr o t k b q gn n) := blk_row_far hG (by omega) _
  clear HR5 HG5
  refine wp_region_held_drew (S := fun W => Blk W g9 (warr o t k b q gn n)) (by kernel_rfl) hG (fun hS => ?_)
  change wpAnyH _ _ _ _ _ _ _ _ (w5.drewN 1)
  generalize w5.drewN 1 = Wd at R5 R6 hG hG6 ⊢
  refine take_op 0 20 ?v0 rfl rfl (by kernel_rfl) (fun _ _ _ h => h) (by rfl) hG (fun w' hS' => ?hv0) ?hh0
  case hv0 => (go_simp; try with_reducible rfl)
  simp only [Act.put, List.setIfInBounds_toArray, List.set_cons_zero, List.set_cons_succ]
  refine take_load 1 21 42 (.tmp 20) g9 0 (.agg (rarr o t k b q gn)) rfl rfl (by kernel_rfl) (fun _ _ _ h => h) (by rfl) hG rfl rfl (fun w' hS' => load_whole hS') ?_
  simp only [Act.put, List.setIfInBounds_toArray, List.set_cons_zero, List.set_cons_succ]
  refine take_op 2 22 ?v2 rfl rfl (by kernel_rfl) (fun _ _ _ h => h) (by rfl) hG (fun w' hS' => ?hv2) ?hh2
  case hv2 => (go_simp; try with_reducible rfl)
  simp only [Act.put, List.setIfInBounds_toArray, List.set_cons_zero, List.set_cons_succ]
  refine take_op 3 23 ?v3 rfl rfl (by kernel_rfl) (fun _ _ _ h => h) (by rfl) hG (fun w' hS' => ?hv3) ?hh3
  case hv3 => (have d6 : w'.cell? ⟨g9, 6, none⟩ = some (.int .i64 n) := hS'.cell 6; go_simp; try with_reducible rfl)
  simp only [Act.put, List.setIfInBounds_toArray, List.set_cons_zero, List.set_cons_succ]
  obtain ⟨T, hpT⟩ := R5.out.out.1
  refine only_op 4 rfl (by kernel_rfl) (by rfl) (wp_store_row 42 (.tmp 2) (.tmp 21) rfl p (rarr o t k b q gn) rfl rfl T _ hpT info_rec rfl (one_arr _ _ _ _ _ _) ⟨hG6, ?_⟩)
  simp only [Act.put]
  refine take_op 5 3 ?v5 rfl rfl (by kernel_rfl) (fun _ _ _ h => h) (by rfl) hG6 (fun w' hS' => ?hv5) ?hh5
  case hv5 => (go_simp; try with_reducible rfl)
  simp only [Act.put, List.setIfInBounds_toArray, List.set_cons_zero, List.set_cons_succ]
  refine take_op 6 4 ?v6 rfl rfl (by kernel_rfl) (fun _ _ _ h => h) (by rfl) hG6 (fun w' hS' => ?hv6) ?hh6
  case hv6 => (go_simp; try with_reducible rfl)
  simp only [Act.put, List.setIfInBounds_toArray, List.set_cons_zero, List.set_cons_succ]
  refine wpAnyH_done (by kernel_rfl) ?_ _
  clear hpT R5 hS hG hG6
  go_wp2_with fail
  refine bodyPost_ret (results_rec3 Tryd.results39 rfl R6.out.1 rfl rfl rfl) rfl ⟨rfl, R6.out.2⟩

/-- rec.Take. -/
theorem Take_is (s : ByteArray) (R : Rc) (n : Nat) (E : Int) (w : World) (hm : s.size ≤ 1000000) (ht : Tab w) (h : takeR s.data.toList = (R, n, E)) :
    Calls Tryd.prog 39 #[.string s] w fun e w' => e = .returned (.tuple #[ragg R, .int .i64 (n : Int), .int .i64 E]) ∧ Below w.heap.size w w' := by
  by_cases h0 : E = 0
  · subst h0
    exact Take_good s R.o R.t (str R.k) (str R.b) R.q R.g n w (fun W hb => first_is s _ W hm (ht.below hb) (by rw [h, firstV_ok]))
  · have hz : R = zero ∧ n = 0 := by
      rcases take_err s.data.toList with e | e | e
      · rw [h] at e; exact absurd e h0
      · rw [h] at e; injection e with e1 e2; injection e2 with e2 e3; exact ⟨e1, e2⟩
      · rw [h] at e; injection e with e1 e2; injection e2 with e2 e3; exact ⟨e1, e2⟩
    obtain ⟨rfl, rfl⟩ := hz
    exact Take_bad s E w (fun W hb => first_is s _ W hm (ht.below hb) (by rw [h, firstV_bad _ _ _ h0]))
end Go.Proofs.YthhpmhibkbndhaaDoor
/- Package seg: the segment that bytes begin with. -/
namespace Go.Proofs.YthhpmhibkbndhaaDoor
open Go.RowKit Go.Lib Vbi Rcd Crc

/-- The segment so far in its box, its records in a row of the call's own. -/
@[irreducible] def PW (w : World) (p : Nat) (b : Int) (rs : List Rc) (A : Option Addr) (c : Nat) (W : World) : Prop := Blk W p #[.int .i64 b, .slice A rs.length c] ∧ W.ownsRow (p + 1) 42 6 (.slice A rs.length c) rs.length (flat rs) ∧ Below w.heap.size w W ∧ w.heap.size ≤ p
section
variable {w W W' : World} {p : Nat} {b : Int} {rs : List Rc} {A : Option Addr} {c : Nat}
theorem PW.mk (h : Blk W p #[.int .i64 b, .slice A rs.length c] ∧ W.ownsRow (p + 1) 42 6 (.slice A rs.length c) rs.length (flat rs) ∧ Below w.heap.size w W ∧ w.heap.size ≤ p) : PW w p b rs A c W := by unfold PW; exact h
theorem PW.out (h : PW w p b rs A c W) : Blk W p #[.int .i64 b, .slice A rs.length c] ∧ W.ownsRow (p + 1) 42 6 (.slice A rs.length c) rs.length (flat rs) ∧ Below w.heap.size w W ∧ w.heap.size ≤ p := by unfold PW at h; exact h
theorem PW.below (h : PW w p b rs A c W) (hb : Below W.heap.size W W') : PW w p b rs A c W' := by
  obtain ⟨h1, h2, h3, h4⟩ := h.out
  exact .mk ⟨h1.below hb, own_below h2 hb, h3.trans (hb.mono h3.size), h4⟩
theorem PW.bel (h : PW w p b rs A c W) : Below w.heap.size w W := h.out.2.2.1
theorem PW.recs (h : PW w p b rs A c W) : RecsAt W W.heap.size A rs := .of_own h.out.2.1
theorem PW.again (h : PW w p b rs A c W) : PW w p b rs A c (W.setRow p #[.int .i64 b, .slice A rs.length c]) := by
  obtain ⟨h1, h2, h3, h4⟩ := h.out
  exact .mk ⟨h1.row _, own_row h2 p (Nat.lt_succ_self _) _, below_row h3 h4 _, h4⟩
theorem PW.start (w : World) (b : Int) : PW w w.heap.size b [] none 0 ((w.alloc (.cells #[.int .i64 0, .slice none 0 0] 24)).setRow w.heap.size #[.int .i64 b, .slice none 0 0]) := by
  have h1 := Blk.new w 24 #[.int .i64 0, .slice none 0 0]
  have h2 := (Below.refl w.heap.size w).alloc (Nat.le_refl _) (.cells #[.int .i64 0, .slice none 0 0] 24)
  exact .mk ⟨h1.row _, World.ownsRow_nil _ _ _ _, below_row h2 (Nat.le_refl _) _, Nat.le_refl _⟩
/-- One more record behind the others: the row grown, the box written. -/
theorem PW.more {W1 W2 : World} {r : Rc} {A' : Option Addr} {c' : Nat} (h : PW w p b rs A c W) (hgrow : W1.grownBy W2 (Value.slice A rs.length c).ownBlock) (hb : Below W.heap.size W W1) (hown : W2.ownsRow (p + 1) 42 6 (.slice A' (rs ++ [r]).length c') (rs ++ [r]).length (flat (rs ++ [r]))) :
    PW w p b (rs ++ [r]) A' c' (W2.setCell ⟨p, 1, none⟩ (.slice A' (rs ++ [r]).length c')) ∧ Blk W2 p #[.int .i64 b, .slice A rs.length c] := by
  obtain ⟨h1, h2, h3, h4⟩ := (h.below hb).out
  have hbk : Blk W2 p #[.int .i64 b, .slice A rs.length c] := by
    have hl := h1.lt
    obtain ⟨T, h1⟩ := h1
    refine ⟨T, (hgrow.block p hl (fun e => ?_)).trans h1⟩
    have := (h2.lt p e.symm).1
    omega
  have hbl : Below w.heap.size w W2 := h3.trans (below_grown h3.size (own_mono h2 (by omega)) hgrow)
  exact ⟨.mk ⟨hbk.put 1 _, own_far hown ⟨p, 1, none⟩ (Nat.lt_succ_self _) _, hbl.setCell (p := ⟨p, 1, none⟩) h4 _, h4⟩, hbk⟩
end

set_option maxRecDepth 100000 in
set_option maxHeartbeats 4000000 in
/-- seg.Parse, of a base that may not be. -/
theorem SegParse_no (b : Int) (s : ByteArray) (w : World) (hb : baseB b = false) :
    Calls Tryd.prog 21 #[.int .i64 b, .string s] w fun e w' => e = .returned (.tuple #[.agg #[.int .i64 0, .slice none 0 0], .int .i64 0, .int .i64 1]) ∧ Below w.heap.size w w' := by
  have HI := Lib.hid (fun W => isBase_is b false W hb)
  have R0 := Lib.hid (RBox.new w 24 #[.int .i64 0, .slice none 0 0])
  obtain ⟨p, hp⟩ : ∃ p, w.heap.size = p := ⟨_, rfl⟩
  obtain ⟨W0, hW⟩ : ∃ W0, w.alloc (.cells #[.int .i64 0, .slice none 0 0] 24) = W0 := ⟨_, rfl⟩
  rw [hW, hp] at R0
  have HW := Lib.hid hW
  have HP := Lib.hid hp
  clear hW hp hb
  go_enter Tryd.func21, Tryd.ntmps21
  go_upto_region 1 with fail
  rw [HW.out, HP.out]
  clear HW
  have HB := Lib.hid R0.out.out.1
  have R1 := Lib.hid (R0.out.row (Nat.le_of_eq HP.out) #[.int .i64 0, .slice none 0 0])
  clear R0
  go_wp2_with (first | (go_at_call 31; refine (HI.out _).mono ?_; rintro e w' ⟨rfl, rfl⟩) | (refine wpList_store_whole rfl 24 (.tmp 4) (.tmp 13) rfl p _ rfl rfl _ HB.out info_seg rfl (by simp [Value.oneCell']) ?_; simp only [Act.put]))
  refine bodyPost_ret (results_cell3 Tryd.results21 rfl (load_seg R1.out.out.1 rfl) rfl rfl) rfl ⟨rfl, R1.out.out.2⟩

set_option maxRecDepth 100000 in
set_option maxHeartbeats 8000000 in
/-- seg.Parse, of a base that may be. -/
theorem SegParse_yes (b : Int) (s : ByteArray) (L : List Rc) (n9 : Nat) (w : World) (hb : baseB b = true) (hm : s.size ≤ 1000000) (ht : Tab w) (hL : parseS b s.data.toList = L) (hn : (allL L).length = n9) :
    Calls Tryd.prog 21 #[.int .i64 b, .string s] w fun e w' => ∃ A c, e = .returned (.tuple #[.agg #[.int .i64 b, .slice A L.length c], .int .i64 (n9 : Int), .int .i64 0]) ∧ w'.ownsRow w.heap.size 42 6 (.slice A L.length c) L.length (flat L) ∧ Below w.heap.size w w' := by
  obtain ⟨i0, hi, hz0, hz1, hz2⟩ := info_parts info_more
  have HI := Lib.hid (fun W => isBase_is b true W hb)
  have HT := Lib.hid (fun (k : Nat) r n E W (hb : Below w.heap.size w W) (hV : takeR (s.extract k s.size).data.toList = (r, n, E)) => Take_is (s.extract k s.size) r n E W (by rw [ByteArray.size_extract]; omega) (ht.below hb) hV)
  have P0 := Lib.hid (PW.start w b)
  have HL := Lib.hid hL
  have HN := Lib.hid hn
  have hl := size_list s
  have HSZ := Lib.hid hl
  have hbn := Blk.new w 24 #[.int .i64 0, .slice none 0 0]
  obtain ⟨p, hp⟩ : ∃ p, w.heap.size = p := ⟨_, rfl⟩
  obtain ⟨W0, hW⟩ : ∃ W0, w.alloc (.cells #[.int .i64 0, .slice none 0 0] 24) = W0 := ⟨_, rfl⟩
  rw [hW, hp] at P0 hbn
  have HW := Lib.hid hW
  have HP := Lib.hid hp
  have HB := Lib.hid hbn
  clear hW hp hb ht hL hn hl hbn
  go_enter Tryd.func21, Tryd.ntmps21
  go_upto_region 1 with fail
  rw [HW.out, HP.out]
  clear HW HP
  go_upto_region 4 with (first | (go_at_call 31; refine (HI.out _).mono ?_; rintro e w' ⟨rfl, rfl⟩) | (refine wpList_store_whole rfl 24 (.tmp 4) (.tmp 15) rfl p _ rfl rfl _ HB.out info_seg rfl (by simp [Value.oneCell']) ?_; simp only [Act.put]))
  clear HB HI
  generalize World.setRow _ _ _ = W1 at P0 ⊢
  go_loopw [5] (fun i wr => ∃ (k : Nat) (rs : List Rc) (A : Option Addr) (c : Nat), i = .int .i64 (k : Int) ∧ k ≤ s.size ∧ (allL rs).length = k ∧ rs.length ≤ 200 ∧ goP b rs (scan (s.data.toList.drop k)).1 = L ∧ PW w p b rs A c wr) (fun i _ => s.size - (RowKit.intOf i).toNat)
  case atStart => exact ⟨0, [], none, 0, rfl, Nat.zero_le _, rfl, by simp, by rw [List.drop_zero]; exact HL.out, P0.out⟩
  case round =>
    obtain ⟨k, rs, A, c, rfl, hk, hak, hr200, hgo, hpw⟩ := hrel
    have HA := Lib.hid hak
    have HG := Lib.hid hgo
    have P := Lib.hid hpw
    clear hak hgo hpw P0
    have hkI : (k : Int) ≤ (s.size : Int) := by omega
    obtain ⟨r, n, E, hTk⟩ : ∃ r n E, takeR (s.data.toList.drop k) = (r, n, E) := ⟨_, _, _, rfl⟩
    have hex := ext_drop s k (by omega)
    have HT1 := Lib.hid (HT.out k r n E wr P.out.bel (by rw [hex, hTk]))
    obtain ⟨X, hX⟩ : ∃ X, followB b rs r = X := ⟨_, rfl⟩
    have HFW := Lib.hid (fun W (h : PW w p b rs A c W) => follow_is b rs r rs.length A c W.heap.size X W rfl (by omega) (Nat.le_refl _) h.recs hX)
    have hway : (¬ E = 0 ∧ rs = L) ∨ (E = 0 ∧ X = false ∧ rs = L) ∨ (E = 0 ∧ X = true ∧ goP b (rs ++ [r]) (scan (s.data.toList.drop (k + n))).1 = L ∧ (allL (rs ++ [r])).length = k + n ∧ k + n ≤ s.size ∧ 25 ≤ n ∧ rs.length < 200) := by
      by_cases h0 : E = 0
      · subst h0
        have hsc := scan_next hTk rfl
        rw [List.drop_drop] at hsc
        have hg := HG.out
        rw [hsc] at hg
        cases X with
        | false => rw [goP_no hX] at hg; exact .inr (.inl ⟨rfl, rfl, hg⟩)
        | true =>
          rw [goP_yes hX] at hg
          have hsz := take_may hTk
          rw [List.length_drop, HSZ.out] at hsz
          exact .inr (.inr ⟨rfl, rfl, hg, by rw [all_snoc, List.length_append, HA.out, ← Rcd.take_len hTk], by omega, hsz.2, (follow_iff.1 hX).1⟩)
      · have hg := HG.out
        rw [scan_none (by rw [hTk]; exact h0), goP_nil] at hg
        exact .inl ⟨h0, hg⟩
    clear HG hX hTk hex
    unfold ragg at HT1 HFW
    have HS : Hid (flat (rs ++ [r]) = flat rs ++ [.int .i64 r.o, .int .i64 r.t, .string (str r.k), .string (str r.b), .int .i64 r.q, .bool r.g]) := flat_snoc _ _
    have hon : ∀ u ∈ [Value.int .i64 r.o, .int .i64 r.t, .string (str r.k), .string (str r.b), .int .i64 r.q, .bool r.g], u.oneCell' = true := one_cells r
    have HON := Lib.hid hon
    clear hon
    obtain ⟨o, t, key, bod, q, g⟩ := r
    dsimp only at HT1 HFW HS HON
    generalize str key = ks at HT1 HFW HS HON
    generalize str bod = bs at HT1 HFW HS HON
    unfold rarr at HT1 HFW
    go_wp2_with fail
    refine HT1.out.mono ?_
    rintro e w1 ⟨rfl, hb1⟩
    have P1 := Lib.hid (P.out.below hb1)
    clear P hb1 HT1
    obtain ⟨g9, W4, hg9, hW4, hbn, hbx, hbl⟩ := box_new P1.out.bel #[.int .i64 o, .int .i64 t, .string ks, .string bs, .int .i64 q, .bool g]
    have HBN := Lib.hid hbn
    have HBX := Lib.hid hbx
    have P5 := Lib.hid (P1.out.below hbl)
    unfold zcells at hW4
    have HW4 := Lib.hid hW4
    clear hbn hbx hbl hW4 P1
    go_upto_region 5 with (rw [HW4.out]; refine wpList_store_whole rfl 42 (.tmp 7) (.tmp 21) rfl g9 _ rfl rfl zcells HBN.out info_rec rfl (by simp [Value.oneCell']) ?_; simp only [Act.put])
    clear HW4 HBN hg9
    generalize World.setRow _ _ _ = w5 at HBX P5 ⊢
    rcases hway with ⟨h0, rfl⟩ | ⟨rfl, rfl, rfl⟩ | ⟨rfl, rfl, hgo, hall, hkn, hn25, hr2⟩
    · have h0b : (E == 0) = false := by rw [beq_eq_false_iff_ne]; exact h0
      have h0c : (E != 0) = true := by rw [bne_iff_ne]; exact h0
      obtain rfl : k = n9 := by rw [← HA.out, ← HN.out]
      have hld := load_seg P5.out.out.1 rfl
      have HB := Lib.hid P5.out.out.1
      have P6 := Lib.hid P5.out.again
      clear P5 HBX HFW HS HON HT
      go_wp2_with (first | (refine wpList_load_any (by rfl) 24 (.tmp 4) rfl p 0 rfl _ hld ?_; simp only [Act.put]) | (refine wpList_store_whole rfl 24 (.tmp 4) (.tmp 32) rfl p _ rfl rfl _ HB.out info_seg rfl (by simp [Value.oneCell']) ?_; simp only [Act.put]))
      refine bodyPost_ret (results_cell3 Tryd.results21 rfl (load_seg P6.out.out.1 rfl) rfl rfl) rfl ⟨A, c, rfl, own_mono P6.out.out.2.1 (Nat.le_succ_of_le P6.out.out.2.2.2), P6.out.bel⟩
    · obtain rfl : k = n9 := by rw [← HA.out, ← HN.out]
      have hld := load_seg P5.out.out.1 rfl
      have hld2 := load_blk HBX.out.out.1 rfl
      have HFW1 := Lib.hid (HFW.out _ P5.out)
      clear HS HON HT HFW
      go_upto_region 6 with (first | (refine wpList_load_any (by rfl) 24 (.tmp 4) rfl p 0 rfl _ hld ?_; simp only [Act.put]) | (refine wpList_load_any (by rfl) 42 (.tmp 7) rfl g9 0 rfl _ hld2 ?_; simp only [Act.put]))
      refine HFW1.out.mono ?_
      rintro e w6 ⟨rfl, hb6⟩
      have P6 := Lib.hid (P5.out.below hb6)
      clear hld hld2 P5 HBX hb6 HFW1
      have hld := load_seg P6.out.out.1 rfl
      have HB := Lib.hid P6.out.out.1
      have P7 := Lib.hid P6.out.again
      clear P6
      go_wp2_with (first | (refine wpList_load_any (by rfl) 24 (.tmp 4) rfl p 0 rfl _ hld ?_; simp only [Act.put]) | (refine wpList_store_whole rfl 24 (.tmp 4) (.tmp 32) rfl p _ rfl rfl _ HB.out info_seg rfl (by simp [Value.oneCell']) ?_; simp only [Act.put]))
      refine bodyPost_ret (results_cell3 Tryd.results21 rfl (load_seg P7.out.out.1 rfl) rfl rfl) rfl ⟨A, c, rfl, own_mono P7.out.out.2.1 (Nat.le_succ_of_le P7.out.out.2.2.2), P7.out.bel⟩
    · have HGO := Lib.hid hgo
      have HALL := Lib.hid hall
      have hld := load_seg P5.out.out.1 rfl
      have hld2 := load_blk HBX.out.out.1 rfl
      have HFW1 := Lib.hid (HFW.out _ P5.out)
      clear HT HFW hgo hall
      go_upto_region 6 with (first | (refine wpList_load_any (by rfl) 24 (.tmp 4) rfl p 0 rfl _ hld ?_; simp only [Act.put]) | (refine wpList_load_any (by rfl) 42 (.tmp 7) rfl g9 0 rfl _ hld2 ?_; simp only [Act.put]))
      refine HFW1.out.mono ?_
      rintro e w6 ⟨rfl, hb6⟩
      have P6 := Lib.hid (P5.out.below hb6)
      have X6 := Lib.hid (HBX.out.below hb6)
      clear hld hld2 P5 HBX hb6 HFW1
      have d1 : w6.cell? ⟨p, 1, none⟩ = some (.slice A rs.length c) := P6.out.out.1.cell 1
      have hld2 := load_blk X6.out.out.1 rfl
      have hsz6 : p + 1 ≤ w6.heap.size := P6.out.out.1.lt
      go_wp2_with (first | (refine wpList_load_any (by rfl) 42 (.tmp 7) rfl g9 0 rfl _ hld2 ?_; simp only [Act.put]) | (at_builtin; refine wpList_append_own _ rfl _ _ 22 rfl (p + 1) 42 i0 (.agg zcells) 6 64 Tryd.underlying22 hi hz0 hz1 hz2 rfl (by decide) _ _ _ rfl (P6.out.out.2.1.alloc _) ⟨w6.heap.size, 0, none⟩ 1 1 [.int .i64 o, .int .i64 t, .string ks, .string bs, .int .i64 q, .bool g] rfl rfl ?c1 ?c2 ?c3 ?c4 ?c5 ?_))
      case c1 => exact fun j u h => cells_new w6 _ [.int .i64 o, .int .i64 t, .string ks, .string bs, .int .i64 q, .bool g] j u h
      case c2 => exact HON.out
      case c3 => unfold maxLen; omega
      case c4 => omega
      case c5 => simp; omega
      intro v' w7 hown' hgrow _
      have hown2 : w7.ownsRow (p + 1) 42 6 v' (rs ++ [(⟨o, t, key, bod, q, g⟩ : Rc)]).length (flat (rs ++ [⟨o, t, key, bod, q, g⟩])) := by
        rw [HS.out, List.length_append]; exact hown'
      obtain ⟨A', c', rfl⟩ := own_slice hown2
      have hpm := PW.more P6.out hgrow ((Below.refl _ _).alloc (Nat.le_refl _) _) hown2
      have f1 := hpm.2.frozen 1
      have e1 : w7.cell? ⟨p, 1, none⟩ = some (.slice A rs.length c) := hpm.2.cell 1
      have P7 := Lib.hid hpm.1
      clear hown' hgrow hown2 hpm HS HON hld2 d1 P6 X6
      have hrl : Hid ((rs ++ [(⟨o, t, key, bod, q, g⟩ : Rc)]).length ≤ 200) := by show _ ≤ _; rw [List.length_append]; show _ + 1 ≤ _; omega
      have hknI : (k : Int) + (n : Int) ≤ 1000000 := by omega
      generalize (rs ++ [(⟨o, t, key, bod, q, g⟩ : Rc)]) = rs2 at P7 hrl HGO HALL ⊢
      go_wp2_with fail
      go_roundw
      case rel => exact ⟨k + n, rs2, A', c', by rw [show ((k : Int) + (n : Int)) = ((k + n : Nat) : Int) by omega], by omega, HALL.out, hrl.out, HGO.out, P7.out⟩
      case measure => simp [RowKit.intOf]; omega
end Go.Proofs.YthhpmhibkbndhaaDoor
/- Records held against each other. -/
namespace Go.Proofs.YthhpmhibkbndhaaDoor
open Go.RowKit Go.Lib Rcd

set_option maxRecDepth 100000 in
set_option maxHeartbeats 1000000 in
/-- EqRecs of the same records: yes. -/
theorem EqRecs_same (l : List Rc) (A A' : Option Addr) (c c' B B' : Nat) (w : World) (hm : l.length ≤ 9223372036854775807) (h : RecsAt w B A l) (h' : RecsAt w B' A' l) :
    Calls Tryd.prog 24 #[.slice A l.length c, .slice A' l.length c'] w fun e w' => e = .returned (.bool true) ∧ Below w.heap.size w w' := by
  have H := Lib.hid h
  have H' := Lib.hid h'
  clear h h'
  go_enter Tryd.func24, Tryd.ntmps24
  go_wp2_with fail
  go_loopw [5] (fun i wr => ∃ k n : Nat, k ≤ l.length ∧ i = .int .i64 (k : Int) ∧ wr = w.drewN n) (fun i _ => l.length - (RowKit.intOf i).toNat)
  case atStart => exact ⟨0, 0, Nat.zero_le _, rfl, rfl⟩
  case round =>
    obtain ⟨k, n, hk, rfl, rfl⟩ := hrel
    by_cases hlt : k < l.length
    · obtain ⟨b, o, rfl, _, hc⟩ := H.out.some_ (by omega)
      obtain ⟨b', o', rfl, _, hc'⟩ := H'.out.some_ (by omega)
      have h1 := hc k hlt
      have h2 := hc' k hlt
      clear hc hc' H H'
      obtain ⟨x, t, ks, bs, q, g⟩ := l[k]
      obtain ⟨c0, c1, c2, c3, c4, c5⟩ := h1
      obtain ⟨d0, d1, d2, d3, d4, d5⟩ := h2
      generalize str ks = kz at c2 d2
      generalize str bs = bz at c3 d3
      have hkI : (k : Int) < (l.length : Int) := by omega
      have hne := neq_rec x t kz bz q g
      unfold rarr at hne
      go_wp2
      go_quiet (fail)
      go_wp2
      go_roundw
      case rel => exact ⟨k + 1, _, hlt, by go_num, rfl⟩
      case measure => simp [RowKit.intOf]; omega
    · go_wp2
      go_ret
      exact ⟨rfl, below_drewN (Below.refl _ _) n⟩

end Go.Proofs.YthhpmhibkbndhaaDoor
/- The document's own answer: copies of records, of a segment. -/
namespace Go.Proofs.YthhpmhibkbndhaaDoor
open Go.RowKit Go.Lib Rcd

set_option maxRecDepth 100000 in
set_option maxHeartbeats 4000000 in
/-- fairwayref0.CopyRecs. -/
theorem RCopyRecs_is (l : List Rc) (A : Option Addr) (c B : Nat) (w : World) (hm : l.length * 64 ≤ 140737488351232) (hB : B ≤ w.heap.size) (h : RecsAt w B A l) :
    Calls Tryd.prog 26 #[.slice A l.length c] w fun e w' => ∃ A' c', e = .returned (.slice A' l.length c') ∧ w'.ownsRow w.heap.size 42 6 (.slice A' l.length c') l.length (flat l) ∧ Below w.heap.size w w' := by
  obtain ⟨i0, hi, hz0, hz1, hz2⟩ := info_parts info_more
  have H := Lib.hid (h.mono hB)
  clear h
  go_enter Tryd.func26, Tryd.ntmps26
  go_wp2_with fail
  go_loopw [3, 4] (fun m i wr => ∃ k : Nat, k ≤ l.length ∧ i = .int .i64 (k : Int) ∧ wr.ownsRow w.heap.size 42 6 m k (flat (l.take k)) ∧ Below w.heap.size w wr) (fun _ i _ => l.length - (RowKit.intOf i).toNat)
  case atStart => exact ⟨0, Nat.zero_le _, rfl, World.ownsRow_nil _ _ _ _, Below.refl _ _⟩
  case round =>
    obtain ⟨k, hk, rfl, hown, hnx⟩ := hrel
    by_cases hlt : k < l.length
    · obtain ⟨b0, o0, rfl, _, hc⟩ := (H.out.below hnx).some_ (by omega)
      obtain ⟨d0, d1, d2, d3, d4, d5⟩ := hc k hlt
      have HS := Lib.hid (takeR_snoc hlt)
      clear hc
      obtain ⟨s, hs⟩ : ∃ s, l[k] = s := ⟨_, rfl⟩
      rw [hs] at d0 d1 d2 d3 d4 d5 HS
      have HO := Lib.hid hown
      have HN := Lib.hid hnx
      have hkI : (k : Int) < (l.length : Int) := by omega
      obtain ⟨o, t, key, bod, q, g⟩ := s
      have hfc : rcells ⟨o, t, key, bod, q, g⟩ = [.int .i64 o, .int .i64 t, .string (str key), .string (str bod), .int .i64 q, .bool g] := rfl
      have hon : ∀ u ∈ rcells ⟨o, t, key, bod, q, g⟩, u.oneCell' = true := one_cells _
      rw [hfc] at HS hon
      have HON := Lib.hid hon
      dsimp only at d0 d1 d2 d3 d4 d5
      clear hs hown hnx hfc hon
      generalize str key = ks at HS HON d2
      generalize str bod = bs at HS HON d3
      have hs6 := HN.out.size
      go_wp2_with (at_builtin; refine wpList_append_own _ rfl _ _ 22 rfl w.heap.size 42 i0 (.agg zcells) 6 64 Tryd.underlying22 hi hz0 hz1 hz2 rfl (by decide) _ _ _ rfl (HO.out.alloc _) ⟨wr.heap.size, 0, none⟩ 1 1 [.int .i64 o, .int .i64 t, .string ks, .string bs, .int .i64 q, .bool g] rfl rfl ?c1 ?c2 ?c3 ?c4 ?c5 ?_)
      case c1 => exact fun j u h => cells_new wr _ [.int .i64 o, .int .i64 t, .string ks, .string bs, .int .i64 q, .bool g] j u h
      case c2 => exact HON.out
      case c3 => unfold maxLen; omega
      case c4 => first | omega | (simp; omega)
      case c5 => first | omega | (simp; omega)
      intro v' w7 hown' hgrow _
      have HN' := Lib.hid (HN.out.trans (below_alloc_grown hs6 HO.out hgrow))
      have HO' : Hid (w7.ownsRow w.heap.size 42 6 v' (k + 1) (flat (l.take (k + 1)))) := by show World.ownsRow _ _ _ _ _ _ _; rw [HS.out]; exact hown'
      clear hown' hgrow HO HN HS HON
      go_wp2_with fail
      go_roundw
      case rel => exact ⟨k + 1, hlt, by go_num, HO'.out, HN'.out⟩
      case measure => simp [RowKit.intOf]; omega
    · obtain rfl : k = l.length := by omega
      rw [List.take_length] at hown
      obtain ⟨A', c', hv⟩ := own_slice hown
      have HO := Lib.hid hown
      have HN := Lib.hid hnx
      clear hown hnx
      subst hv
      go_wp2_with fail
      go_ret
      exact ⟨A', c', rfl, HO.out, HN.out⟩

set_option maxRecDepth 100000 in
set_option maxHeartbeats 4000000 in
/-- fairwayref0.CopySeg. -/
theorem RCopySeg_is (b : Int) (l : List Rc) (A : Option Addr) (c B : Nat) (w : World) (hm : l.length * 64 ≤ 140737488351232) (hB : B ≤ w.heap.size) (h : RecsAt w B A l) :
    Calls Tryd.prog 7 #[.agg #[.int .i64 b, .slice A l.length c]] w (GivesAt b l w) := by
  have hD := Duo.new w 24 24 (sarr b A l.length c) szero
  have HC := Lib.hid (fun W (hb : Below w.heap.size w W) => RCopyRecs_is l A c B W hm (Nat.le_trans hB hb.size) (h.below (hb.mono hB)))
  obtain ⟨p, hp⟩ : ∃ p, w.heap.size = p := ⟨_, rfl⟩
  obtain ⟨W0, hW⟩ : ∃ W0, (w.alloc (.cells (sarr b A l.length c) 24)).alloc (.cells szero 24) = W0 := ⟨_, rfl⟩
  rw [hW, hp] at hD
  unfold sarr at hD hW
  unfold szero at hW
  have D0 := Lib.hid hD
  have hq := SBlk.new W0 szero
  have hDn := hD.below ((Below.refl _ _).alloc (Nat.le_refl _) (.cells szero 24))
  obtain ⟨q, hqz⟩ : ∃ q, W0.heap.size = q := ⟨_, rfl⟩
  obtain ⟨W4, hW4⟩ : ∃ W4, W0.alloc (.cells szero 24) = W4 := ⟨_, rfl⟩
  rw [hW4] at hq hDn
  rw [hqz] at hq
  have hpq : p + 1 < q := by rw [← hqz]; exact hD.out.2.1.lt
  have hD5 : Duo w p (p + 1) #[.int .i64 b, .slice A l.length c] szero (W4.setRow q #[.int .i64 b, .slice A l.length c]) := by
    obtain ⟨h1, h2, h3, h4, h5⟩ := hDn.out
    exact .mk ⟨setRow_blk h1 (by omega) _, setRow_blk h2 (by omega) _, below_row h3 (by omega) _, h4, h5⟩
  have D5 := Lib.hid hD5
  have HBN := Lib.hid hq.blk
  have Q5 := Lib.hid (hq.row #[.int .i64 b, .slice A l.length c])
  unfold szero at hW4
  have HW := Lib.hid hW
  have HP := Lib.hid hp
  have HW4 := Lib.hid hW4
  have HQ := Lib.hid hqz
  clear hW hp h hW4 hqz hq hD hDn hD5
  go_enter Tryd.func7, Tryd.ntmps7
  go_upto_region 1 with fail
  rw [HW.out, HP.out]
  clear HW
  have hld := D0.out.box1.loadS rfl
  go_upto_region 2 with (first | (refine wpList_load_any (by rfl) 24 (.tmp 1) rfl p 0 rfl _ hld ?_; simp only [Act.put]) | (rw [HW4.out, HQ.out]; refine wpList_store_whole rfl 24 (.tmp 3) (.tmp 4) rfl q _ rfl rfl szero HBN.out info_seg rfl (by simp [Value.oneCell']) ?_; simp only [Act.put]))
  clear HW4 HBN HQ D0 hld
  generalize World.setRow _ _ _ = w5 at D5 Q5 ⊢
  have d1 : w5.cell? ⟨p, 1, none⟩ = some (.slice A l.length c) := D5.out.cell1 1
  go_wp2_with fail
  refine (HC.out _ D5.out.bel).mono ?_
  rintro e w6 ⟨A', c', rfl, hown, hb6⟩
  have D6 := Lib.hid (D5.out.below hb6)
  have Q6 := Lib.hid (Q5.out.below hb6)
  have hown6 := own_mono hown (show q + 1 ≤ w5.heap.size from Q5.out.lt)
  have e1 : w6.cell? ⟨q, 1, none⟩ = some (.slice A l.length c) := Q6.out.blk.cell 1
  have f1 := Q6.out.blk.frozen 1
  have hQ7 : SBlk (w6.setCell ⟨q, 1, none⟩ (.slice A' l.length c')) q #[.int .i64 b, .slice A' l.length c'] := Q6.out.put 1 _
  have hO7 := own_far hown6 ⟨q, 1, none⟩ (Nat.lt_succ_self _) (.slice A' l.length c')
  have hD7 : Duo w p (p + 1) #[.int .i64 b, .slice A l.length c] szero (w6.setCell ⟨q, 1, none⟩ (.slice A' l.length c')) := by
    obtain ⟨h1, h2, h3, h4, h5⟩ := D6.out.out
    exact .mk ⟨h1.far (p := ⟨q, 1, none⟩) (by show p ≠ q; omega) _, h2.far (p := ⟨q, 1, none⟩) (by show p + 1 ≠ q; omega) _, h3.setCell (p := ⟨q, 1, none⟩) (by show _ ≤ q; omega) _, h4, h5⟩
  have Q7 := Lib.hid hQ7
  have O7 := Lib.hid hO7
  have D7 := Lib.hid hD7
  clear hown hown6 hb6 D5 Q5 D6 Q6 d1 HC hQ7 hO7 hD7
  go_upto_region 3 with fail
  clear e1 f1
  generalize w6.setCell _ _ = w7 at Q7 O7 D7 ⊢
  have hld := load_seg Q7.out.blk rfl
  have HB := Lib.hid D7.out.out.2.1
  have D8 := Lib.hid (D7.out.row2 #[.int .i64 b, .slice A' l.length c'])
  have hx : (w7.setRow (p + 1) #[.int .i64 b, .slice A' l.length c']).ownsRow w.heap.size 42 6 (.slice A' l.length c') l.length (flat l) := own_mono (own_row O7.out (p + 1) (by omega) _) (by have := D7.out.out.2.2.2.1; omega)
  have O8 := Lib.hid hx
  clear hx D7 O7
  go_wp2_with (first | (refine wpList_load_any (by rfl) 24 (.tmp 3) rfl q 0 rfl _ hld ?_; simp only [Act.put]) | (refine wpList_store_whole rfl 24 (.tmp 2) (.tmp 9) rfl (p + 1) _ rfl rfl _ HB.out info_seg rfl (by simp [Value.oneCell']) ?_; simp only [Act.put]))
  refine bodyPost_ret (results_cell Tryd.results7 rfl (load_seg D8.out.out.2.1 rfl)) rfl ⟨A', c', rfl, O8.out, D8.out.bel⟩
end Go.Proofs.YthhpmhibkbndhaaDoor
/- The document's own answer: a segment with one more record, whatever that makes. -/
namespace Go.Proofs.YthhpmhibkbndhaaDoor
open Go.RowKit Go.Lib Rcd

set_option maxRecDepth 100000 in
set_option maxHeartbeats 8000000 in
/-- fairwayref10.With. -/
theorem RWith_is (b : Int) (l : List Rc) (r : Rc) (A : Option Addr) (c B : Nat) (w : World) (hm : l.length ≤ 1000000) (hB : B ≤ w.heap.size) (h : RecsAt w B A l) :
    Calls Tryd.prog 15 #[.agg #[.int .i64 b, .slice A l.length c], ragg r] w (GivesAt b (l ++ [r]) w) := by
  obtain ⟨i0, hi, hz0, hz1, hz2⟩ := info_parts info_more
  have hT := Tri.new w 24 42 24 (sarr b A l.length c) (rarr r.o r.t (str r.k) (str r.b) r.q r.g) szero
  have HC := Lib.hid (fun W (hb : Below w.heap.size w W) => RCopySeg_is b l A c B W (by omega) (Nat.le_trans hB hb.size) (h.below (hb.mono hB)))
  clear h
  unfold ragg
  obtain ⟨o, t, key, bod, q, g⟩ := r
  dsimp only at hT ⊢
  have hfc : rcells ⟨o, t, key, bod, q, g⟩ = [.int .i64 o, .int .i64 t, .string (str key), .string (str bod), .int .i64 q, .bool g] := rfl
  have HSN : Hid (flat (l ++ [⟨o, t, key, bod, q, g⟩]) = flat l ++ rcells ⟨o, t, key, bod, q, g⟩) := flat_snoc _ _
  have hon : ∀ u ∈ rcells ⟨o, t, key, bod, q, g⟩, u.oneCell' = true := one_cells _
  rw [hfc] at HSN hon
  have HON := Lib.hid hon
  clear hfc hon
  generalize str key = ks at hT HSN HON ⊢
  generalize str bod = bs at hT HSN HON ⊢
  obtain ⟨p, hp⟩ : ∃ p, w.heap.size = p := ⟨_, rfl⟩
  obtain ⟨W0, hW⟩ : ∃ W0, ((w.alloc (.cells (sarr b A l.length c) 24)).alloc (.cells (rarr o t ks bs q g) 42)).alloc (.cells szero 24) = W0 := ⟨_, rfl⟩
  rw [hW, hp] at hT
  unfold sarr rarr szero at hW
  unfold sarr rarr at hT
  unfold rarr
  have T0 := Lib.hid hT
  have HW := Lib.hid hW
  have HP := Lib.hid hp
  clear hT hW hp
  go_enter Tryd.func15, Tryd.ntmps15
  go_upto_region 1 with fail
  rw [HW.out, HP.out]
  clear HW HP
  have hld := load_seg T0.out.out.1 rfl
  go_wp2_with (refine wpList_load_any (by rfl) 24 (.tmp 2) rfl p 0 rfl _ hld ?_; simp only [Act.put])
  refine (HC.out _ T0.out.bel).mono ?_
  rintro e w1 ⟨A1, c1, rfl, hown1, hb1⟩
  have T1 := Lib.hid (T0.out.below hb1)
  have O1 := Lib.hid (own_mono hown1 T0.out.lt)
  clear T0 hb1 hld HC hown1
  have hq := SBlk.new w1 szero
  have hb4 := (Below.refl w1.heap.size w1).alloc (Nat.le_refl _) (.cells szero 24)
  obtain ⟨z, hz⟩ : ∃ z, w1.heap.size = z := ⟨_, rfl⟩
  obtain ⟨W4, hW4⟩ : ∃ W4, w1.alloc (.cells szero 24) = W4 := ⟨_, rfl⟩
  have hb5 : Below w1.heap.size w1 (W4.setRow z #[.int .i64 b, .slice A1 l.length c1]) := by
    rw [← hz, ← hW4]
    exact below_row hb4 (Nat.le_refl _) _
  have T5 := Lib.hid (T1.out.below hb5)
  have O5 := Lib.hid (own_below O1.out hb5)
  have hpz : p + 3 ≤ z := by rw [← hz]; exact T1.out.lt
  rw [hz, hW4] at hq
  have HBN := Lib.hid hq.blk
  have Q5 := Lib.hid (hq.row #[.int .i64 b, .slice A1 l.length c1])
  unfold szero at hW4
  have HW4 := Lib.hid hW4
  have HZ := Lib.hid hz
  clear hq hb4 hb5 hW4 hz T1 O1
  go_upto_region 2 with (rw [HW4.out, HZ.out]; refine wpList_store_whole rfl 24 (.tmp 5) (.tmp 7) rfl z _ rfl rfl szero HBN.out info_seg rfl (by simp [Value.oneCell']) ?_; simp only [Act.put])
  clear HW4 HBN HZ
  generalize World.setRow _ _ _ = w5 at T5 Q5 O5 ⊢
  have d1 : w5.cell? ⟨z, 1, none⟩ = some (.slice A1 l.length c1) := Q5.out.blk.cell 1
  have hld2 := load_blk T5.out.out.2.1 rfl
  have hsz5 := T5.out.lt
  go_wp2_with (first | (refine wpList_load_any (by rfl) 42 (.tmp 3) rfl (p + 1) 0 rfl _ hld2 ?_; simp only [Act.put]) | (at_builtin; refine wpList_append_own _ rfl _ _ 22 rfl (p + 3) 42 i0 (.agg zcells) 6 64 Tryd.underlying22 hi hz0 hz1 hz2 rfl (by decide) _ _ _ rfl (O5.out.alloc _) ⟨w5.heap.size, 0, none⟩ 1 1 [.int .i64 o, .int .i64 t, .string ks, .string bs, .int .i64 q, .bool g] rfl rfl ?c1 ?c2 ?c3 ?c4 ?c5 ?_))
  case c1 => exact fun j u h => cells_new w5 _ [.int .i64 o, .int .i64 t, .string ks, .string bs, .int .i64 q, .bool g] j u h
  case c2 => exact HON.out
  case c3 => unfold maxLen; omega
  case c4 => omega
  case c5 => simp; omega
  intro v' w7 hown' hgrow _
  have hown2 : w7.ownsRow (p + 3) 42 6 v' (l ++ [(⟨o, t, key, bod, q, g⟩ : Rc)]).length (flat (l ++ [⟨o, t, key, bod, q, g⟩])) := by
    rw [HSN.out, List.length_append]; exact hown'
  obtain ⟨A2, c2, rfl⟩ := own_slice hown2
  have hba := (Below.refl w5.heap.size w5).alloc (Nat.le_refl _) (.cells #[.int .i64 o, .int .i64 t, .string ks, .string bs, .int .i64 q, .bool g] 42)
  have T7 := Lib.hid ((T5.out.below hba).grown (own_below O5.out hba) (Nat.le_refl _) hgrow)
  have Q7 := Lib.hid ((Q5.out.below hba).grown (own_below O5.out hba) hgrow)
  have O7 := Lib.hid hown2
  clear hown' hgrow hown2 hba HSN HON hld2 d1 T5 Q5 O5
  obtain ⟨M, hM⟩ : ∃ M, l ++ [(⟨o, t, key, bod, q, g⟩ : Rc)] = M := ⟨_, rfl⟩
  rw [hM] at O7
  rw [hM]
  have HM := Lib.hid hM
  have e1 : w7.cell? ⟨z, 1, none⟩ = some (.slice A1 l.length c1) := Q7.out.blk.cell 1
  have f1 := Q7.out.blk.frozen 1
  have Q8 : Hid (SBlk (w7.setCell ⟨z, 1, none⟩ (.slice A2 M.length c2)) z #[.int .i64 b, .slice A2 M.length c2]) := Q7.out.put 1 _
  have O8 := Lib.hid (own_seg_put Q7.out O7.out 1 (.slice A2 M.length c2))
  have hT8 : Tri w p #[.int .i64 b, .slice A l.length c] #[.int .i64 o, .int .i64 t, .string ks, .string bs, .int .i64 q, .bool g] szero (w7.setCell ⟨z, 1, none⟩ (.slice A2 M.length c2)) := by
    obtain ⟨h1, h2, h3, h4, h5⟩ := T7.out.out
    exact .mk ⟨h1.far (p := ⟨z, 1, none⟩) (by show p ≠ z; omega) _, h2.far (p := ⟨z, 1, none⟩) (by show p + 1 ≠ z; omega) _, h3.far (p := ⟨z, 1, none⟩) (by show p + 2 ≠ z; omega) _, h4.setCell (p := ⟨z, 1, none⟩) (by show _ ≤ z; omega) _, h5⟩
  have T8 := Lib.hid hT8
  clear hT8 hM T7 O7
  go_upto_region 3 with fail
  clear e1 f1 Q7
  generalize w7.setCell _ _ = w8 at T8 Q8 O8 ⊢
  have hld := load_seg Q8.out.blk rfl
  have HB := Lib.hid T8.out.out.2.2.1
  have T9 := Lib.hid (T8.out.row3 #[.int .i64 b, .slice A2 M.length c2])
  have O9 := Lib.hid (own_mono (own_row O8.out (p + 2) (by omega) #[.int .i64 b, .slice A2 M.length c2]) (show w.heap.size ≤ p + 3 by have := T8.out.out.2.2.2.2; omega))
  clear T8 O8 Q8
  go_wp2_with (first | (refine wpList_load_any (by rfl) 24 (.tmp 5) rfl z 0 rfl _ hld ?_; simp only [Act.put]) | (refine wpList_store_whole rfl 24 (.tmp 4) (.tmp 14) rfl (p + 2) _ rfl rfl _ HB.out info_seg rfl (by simp [Value.oneCell']) ?_; simp only [Act.put]))
  refine bodyPost_ret (results_cell Tryd.results15 rfl (load_seg T9.out.out.2.2.1 rfl)) rfl ?_
  show GivesAt b (l ++ [(⟨o, t, key, bod, q, g⟩ : Rc)]) w _ _
  rw [HM.out]
  exact ⟨A2, c2, rfl, O9.out, T9.out.bel⟩
end Go.Proofs.YthhpmhibkbndhaaDoor
/- The document's own answer: whether a segment may be. -/
namespace Go.Proofs.YthhpmhibkbndhaaDoor
open Go.RowKit Go.Lib Rcd

theorem load_parts {W : World} {g o : Nat} {x t : Int} {k b : ByteArray} {q : Int} {h : Bool} (c0 : W.cell? ⟨g, o, none⟩ = some (.int .i64 x)) (c1 : W.cell? ⟨g, o + 1, none⟩ = some (.int .i64 t)) (c2 : W.cell? ⟨g, o + 2, none⟩ = some (.string k)) (c3 : W.cell? ⟨g, o + 3, none⟩ = some (.string b)) (c4 : W.cell? ⟨g, o + 4, none⟩ = some (.int .i64 q)) (c5 : W.cell? ⟨g, o + 5, none⟩ = some (.bool h)) :
    (loadVar 42 ⟨g, o, none⟩).run Tryd.prog W = .ok (.agg #[.int .i64 x, .int .i64 t, .string k, .string b, .int .i64 q, .bool h]) W :=
  run_loadVar_mid W g o 42 [.int .i64 x, .int .i64 t, .string k, .string b, .int .i64 q, .bool h] _ (fun j v hv => by
    match j, hv with
    | 0, hv => rw [← hv]; exact c0
    | 1, hv => rw [← hv]; exact c1
    | 2, hv => rw [← hv]; exact c2
    | 3, hv => rw [← hv]; exact c3
    | 4, hv => rw [← hv]; exact c4
    | 5, hv => rw [← hv]; exact c5) Tryd.underlying42 rfl info_rec

/-- So many of the first ones are as the document asks. -/
def DocTo (b : Int) (rs : List Rc) (k : Nat) : Prop := ∀ j, j < rs.length → j < k → docAt b rs j

set_option maxRecDepth 100000 in
set_option maxHeartbeats 16000000 in
/-- fairwayref10.Seg. -/
theorem RSeg_is (b : Int) (rs : List Rc) (N : Nat) (A : Option Addr) (c B : Nat) (X0 : Bool) (w : World) (hN : rs.length = N) (hm : N ≤ 9223372036854775807) (hB : B ≤ w.heap.size) (h : RecsAt w B A rs) (hX : segB b rs = X0) :
    Calls Tryd.prog 8 #[.agg #[.int .i64 b, .slice A N c]] w fun e w' => e = .returned (.bool X0) ∧ Below w.heap.size w w' := by
  have R0 := Lib.hid (RBox.new w 24 (sarr b A N c))
  obtain ⟨p, hp⟩ : ∃ p, w.heap.size = p := ⟨_, rfl⟩
  obtain ⟨W0, hW⟩ : ∃ W0, w.alloc (.cells (sarr b A N c) 24) = W0 := ⟨_, rfl⟩
  rw [hW, hp] at R0
  unfold sarr at R0 hW
  have HW := Lib.hid hW
  have HP := Lib.hid hp
  have H := Lib.hid (h.mono hB)
  have HX := Lib.hid hX
  have HNN := Lib.hid hN
  clear hW hp h hX hN hB
  have n2 : (N : Int) < 9223372036854775808 := by omega
  go_enter Tryd.func8, Tryd.ntmps8
  go_upto_region 1 with fail
  rw [HW.out, HP.out]
  clear HW
  go_wp2_with fail
  go_loopw [3] (fun i wr => ∃ k : Nat, k ≤ N ∧ i = .int .i64 (k : Int) ∧ RBox w p #[.int .i64 b, .slice A N c] wr ∧ DocTo b rs k) (fun i _ => N - (RowKit.intOf i).toNat)
  case atStart => exact ⟨0, Nat.zero_le _, rfl, R0.out, fun j _ h => absurd h (Nat.not_lt_zero _)⟩
  case round =>
    obtain ⟨k, hk, rfl, hbx, hdoc⟩ := hrel
    have HD := Lib.hid hdoc
    have R := Lib.hid hbx
    clear hbx hdoc R0
    have d1 : wr.cell? ⟨p, 1, none⟩ = some (.slice A N c) := R.out.cell 1
    by_cases hlt : k < N
    · have hlr : k < rs.length := by rw [HNN.out]; exact hlt
      obtain ⟨b0, o0, rfl, hb0, hc⟩ := H.out.some_ (by omega)
      have hr := hc k hlr
      have HYES : Hid ((mayB rs[k] = true ∧ b ≤ rs[k].o ∧ (∀ h0 : 0 < k, pairB (rs[k - 1]'(by omega)) rs[k] = true)) → DocTo b rs (k + 1)) := by
        show _ → _
        intro hall j hj hjk
        by_cases hjk2 : j < k
        · exact HD.out j hj hjk2
        · obtain rfl : j = k := by omega
          exact fun _ => hall
      have HNO : Hid (¬ (mayB rs[k] = true ∧ b ≤ rs[k].o ∧ (∀ h0 : 0 < k, pairB (rs[k - 1]'(by omega)) rs[k] = true)) → X0 = false) := by
        show _ → _
        intro hno
        rw [← HX.out, ← Bool.not_eq_true]
        intro hs
        exact hno ((seg_doc.1 hs).2 k hlr hlr)
      obtain ⟨M, hM⟩ : ∃ M, mayB rs[k] = M := ⟨_, rfl⟩
      have HRR := Lib.hid (fun W => RRec_is rs[k] M W hM)
      rw [hM] at HYES HNO
      clear HD hM
      have e1 : (k : Int) < (N : Int) := by omega
      rcases Nat.eq_zero_or_pos k with hk0 | hkp
      · have g1 : decide (0 < k) = false := decide_eq_false (by omega)
        have g2 : decide ((0 : Int) < (k : Int)) = false := decide_eq_false (by omega)
        replace HYES : Hid (M = true ∧ b ≤ rs[k].o → DocTo b rs (k + 1)) := fun h => HYES.out ⟨h.1, h.2, fun h0 => absurd h0 (by omega)⟩
        replace HNO : Hid (¬ (M = true ∧ b ≤ rs[k].o) → X0 = false) := fun h => HNO.out fun h2 => h ⟨h2.1, h2.2.1⟩
        clear hc
        unfold ragg at HRR
        generalize rs[k] = r at hr HRR HYES HNO
        obtain ⟨o, t, key, bod, q, g⟩ := r
        obtain ⟨c0, c1, c2, c3, c4, c5⟩ := hr
        dsimp only at c0 c1 c2 c3 c4 c5 HRR HYES HNO
        generalize str key = ks at c2 HRR
        generalize str bod = bs at c3 HRR
        unfold rarr at HRR
        clear hk0 hlr
        cases M with
        | false =>
          haveI : Nonempty (In (RBox w p #[.int .i64 b, .slice (some ⟨b0, o0, none⟩) N c])) := ⟨⟨_, R.out⟩⟩
          have k0 := fun u : In (RBox w p #[.int .i64 b, .slice (some ⟨b0, o0, none⟩) N c]) => (show u.w.cell? ⟨p, 0, none⟩ = some (.int .i64 b) from u.h.cell 0)
          have k1 := fun u : In (RBox w p #[.int .i64 b, .slice (some ⟨b0, o0, none⟩) N c]) => (show u.w.cell? ⟨p, 1, none⟩ = some (.slice (some ⟨b0, o0, none⟩) N c) from u.h.cell 1)
          have kr := fun u : In (RBox w p #[.int .i64 b, .slice (some ⟨b0, o0, none⟩) N c]) => (u.h.out.2.cell (p := ⟨b0, o0 + k * 6, none⟩) hb0).trans c0
          have kt := fun u : In (RBox w p #[.int .i64 b, .slice (some ⟨b0, o0, none⟩) N c]) => (u.h.out.2.cell (p := ⟨b0, o0 + k * 6 + 1, none⟩) hb0).trans c1
          have kl := fun u : In (RBox w p #[.int .i64 b, .slice (some ⟨b0, o0, none⟩) N c]) => load_parts ((u.h.out.2.cell (p := ⟨b0, o0 + k * 6, none⟩) hb0).trans c0) ((u.h.out.2.cell (p := ⟨b0, o0 + k * 6 + 1, none⟩) hb0).trans c1) ((u.h.out.2.cell (p := ⟨b0, o0 + k * 6 + 2, none⟩) hb0).trans c2) ((u.h.out.2.cell (p := ⟨b0, o0 + k * 6 + 3, none⟩) hb0).trans c3) ((u.h.out.2.cell (p := ⟨b0, o0 + k * 6 + 4, none⟩) hb0).trans c4) ((u.h.out.2.cell (p := ⟨b0, o0 + k * 6 + 5, none⟩) hb0).trans c5)
          have st0 := R.out
          clear R c0 c1 c2 c3 c4 c5
          go_upto_region 4 with fail
          refine region_in (S := RBox w p #[.int .i64 b, .slice (some ⟨b0, o0, none⟩) N c]) (by kernel_rfl) (by kernel_rfl) (st0.drewN 1) ?_
          iterate 4 (go_big_quiet_step (fail))
          go_big_quiet_want
          refine quiet_load_in 42 (.tmp 14) rfl b0 (o0 + k * 6) rfl _ kl ?_
          go_simp
          go_big_quiet_on
          repeat (go_big_quiet_step (first | (go_at_call 19; exact in_call ((HRR.out _).mono fun _ _ h => ⟨h.1, RBox.below (In.h _) h.2⟩))))
          refine wpQuiet_nil ?_
          rintro _ ⟨⟨w7, st7⟩, rfl⟩
          have S7 := Lib.hid st7
          clear this st0 st7 k0 k1 kr kt kl HRR
          (try simp only [Bool.not_true, Bool.not_false])
          obtain rfl : X0 = false := HNO.out (fun h => by cases h.1)
          go_wp2_with fail
          go_ret
          exact ⟨rfl, S7.out.out.2⟩
        | true =>
        by_cases h2 : o < b
        · have g3 : decide (o < b) = true := decide_eq_true h2
          haveI : Nonempty (In (RBox w p #[.int .i64 b, .slice (some ⟨b0, o0, none⟩) N c])) := ⟨⟨_, R.out⟩⟩
          have k0 := fun u : In (RBox w p #[.int .i64 b, .slice (some ⟨b0, o0, none⟩) N c]) => (show u.w.cell? ⟨p, 0, none⟩ = some (.int .i64 b) from u.h.cell 0)
          have k1 := fun u : In (RBox w p #[.int .i64 b, .slice (some ⟨b0, o0, none⟩) N c]) => (show u.w.cell? ⟨p, 1, none⟩ = some (.slice (some ⟨b0, o0, none⟩) N c) from u.h.cell 1)
          have kr := fun u : In (RBox w p #[.int .i64 b, .slice (some ⟨b0, o0, none⟩) N c]) => (u.h.out.2.cell (p := ⟨b0, o0 + k * 6, none⟩) hb0).trans c0
          have kt := fun u : In (RBox w p #[.int .i64 b, .slice (some ⟨b0, o0, none⟩) N c]) => (u.h.out.2.cell (p := ⟨b0, o0 + k * 6 + 1, none⟩) hb0).trans c1
          have kl := fun u : In (RBox w p #[.int .i64 b, .slice (some ⟨b0, o0, none⟩) N c]) => load_parts ((u.h.out.2.cell (p := ⟨b0, o0 + k * 6, none⟩) hb0).trans c0) ((u.h.out.2.cell (p := ⟨b0, o0 + k * 6 + 1, none⟩) hb0).trans c1) ((u.h.out.2.cell (p := ⟨b0, o0 + k * 6 + 2, none⟩) hb0).trans c2) ((u.h.out.2.cell (p := ⟨b0, o0 + k * 6 + 3, none⟩) hb0).trans c3) ((u.h.out.2.cell (p := ⟨b0, o0 + k * 6 + 4, none⟩) hb0).trans c4) ((u.h.out.2.cell (p := ⟨b0, o0 + k * 6 + 5, none⟩) hb0).trans c5)
          have st0 := R.out
          clear R c0 c1 c2 c3 c4 c5
          go_upto_region 4 with fail
          refine region_in (S := RBox w p #[.int .i64 b, .slice (some ⟨b0, o0, none⟩) N c]) (by kernel_rfl) (by kernel_rfl) (st0.drewN 1) ?_
          iterate 4 (go_big_quiet_step (fail))
          go_big_quiet_want
          refine quiet_load_in 42 (.tmp 14) rfl b0 (o0 + k * 6) rfl _ kl ?_
          go_simp
          go_big_quiet_on
          repeat (go_big_quiet_step (first | (go_at_call 19; exact in_call ((HRR.out _).mono fun _ _ h => ⟨h.1, RBox.below (In.h _) h.2⟩))))
          refine wpQuiet_nil ?_
          rintro _ ⟨⟨w7, st7⟩, rfl⟩
          have S7 := Lib.hid st7
          clear this st0 st7 k0 k1 kr kt kl HRR
          (try simp only [Bool.not_true, Bool.not_false])
          obtain rfl : X0 = false := HNO.out (fun h => by have := h.2; omega)
          go_wp2_with fail
          go_ret
          exact ⟨rfl, S7.out.out.2⟩
        · have g3 : decide (o < b) = false := decide_eq_false h2
          haveI : Nonempty (In (RBox w p #[.int .i64 b, .slice (some ⟨b0, o0, none⟩) N c])) := ⟨⟨_, R.out⟩⟩
          have k0 := fun u : In (RBox w p #[.int .i64 b, .slice (some ⟨b0, o0, none⟩) N c]) => (show u.w.cell? ⟨p, 0, none⟩ = some (.int .i64 b) from u.h.cell 0)
          have k1 := fun u : In (RBox w p #[.int .i64 b, .slice (some ⟨b0, o0, none⟩) N c]) => (show u.w.cell? ⟨p, 1, none⟩ = some (.slice (some ⟨b0, o0, none⟩) N c) from u.h.cell 1)
          have kr := fun u : In (RBox w p #[.int .i64 b, .slice (some ⟨b0, o0, none⟩) N c]) => (u.h.out.2.cell (p := ⟨b0, o0 + k * 6, none⟩) hb0).trans c0
          have kt := fun u : In (RBox w p #[.int .i64 b, .slice (some ⟨b0, o0, none⟩) N c]) => (u.h.out.2.cell (p := ⟨b0, o0 + k * 6 + 1, none⟩) hb0).trans c1
          have kl := fun u : In (RBox w p #[.int .i64 b, .slice (some ⟨b0, o0, none⟩) N c]) => load_parts ((u.h.out.2.cell (p := ⟨b0, o0 + k * 6, none⟩) hb0).trans c0) ((u.h.out.2.cell (p := ⟨b0, o0 + k * 6 + 1, none⟩) hb0).trans c1) ((u.h.out.2.cell (p := ⟨b0, o0 + k * 6 + 2, none⟩) hb0).trans c2) ((u.h.out.2.cell (p := ⟨b0, o0 + k * 6 + 3, none⟩) hb0).trans c3) ((u.h.out.2.cell (p := ⟨b0, o0 + k * 6 + 4, none⟩) hb0).trans c4) ((u.h.out.2.cell (p := ⟨b0, o0 + k * 6 + 5, none⟩) hb0).trans c5)
          have st0 := R.out
          clear R c0 c1 c2 c3 c4 c5
          go_upto_region 4 with fail
          refine region_in (S := RBox w p #[.int .i64 b, .slice (some ⟨b0, o0, none⟩) N c]) (by kernel_rfl) (by kernel_rfl) (st0.drewN 1) ?_
          iterate 4 (go_big_quiet_step (fail))
          go_big_quiet_want
          refine quiet_load_in 42 (.tmp 14) rfl b0 (o0 + k * 6) rfl _ kl ?_
          go_simp
          go_big_quiet_on
          repeat (go_big_quiet_step (first | (go_at_call 19; exact in_call ((HRR.out _).mono fun _ _ h => ⟨h.1, RBox.below (In.h _) h.2⟩))))
          refine wpQuiet_nil ?_
          rintro _ ⟨⟨w7, st7⟩, rfl⟩
          have S7 := Lib.hid st7
          clear this st0 st7 k0 k1 kr kt kl HRR
          (try simp only [Bool.not_true, Bool.not_false])
          go_wp2_with fail
          go_roundw
          case rel => exact ⟨k + 1, hlt, by go_num, S7.out, HYES.out (⟨rfl, by omega⟩)⟩
          case measure => simp [RowKit.intOf]; omega
      · obtain ⟨j, hj⟩ : ∃ j, j + 1 = k := ⟨k - 1, by omega⟩
        have g1 : decide (0 < k) = true := decide_eq_true hkp
        have g2 : decide ((0 : Int) < (k : Int)) = true := decide_eq_true (by omega)
        have e5 : (k : Int) - 1 = (j : Int) := by omega
        have e6 : (j : Int) < (N : Int) := by omega
        have hjl : j < rs.length := by omega
        have hrj := hc j hjl
        have hjk : rs[k - 1]'(by omega) = rs[j] := by congr 1; omega
        replace HYES : Hid (M = true ∧ b ≤ rs[k].o ∧ rs[j].o < rs[k].o ∧ rs[j].t ≤ rs[k].t → DocTo b rs (k + 1)) := fun h => HYES.out ⟨h.1, h.2.1, fun h0 => by rw [hjk]; exact pair_iff.2 h.2.2⟩
        replace HNO : Hid (¬ (M = true ∧ b ≤ rs[k].o ∧ rs[j].o < rs[k].o ∧ rs[j].t ≤ rs[k].t) → X0 = false) := fun h => HNO.out fun h2 => h ⟨h2.1, h2.2.1, by have := h2.2.2 hkp; rw [hjk] at this; exact pair_iff.1 this⟩
        unfold ragg at HRR
        generalize rs[k] = r at hr HRR HYES HNO
        generalize rs[j] = r' at hrj HYES HNO
        obtain ⟨o, t, key, bod, q, g⟩ := r
        obtain ⟨o', t', key', bod', q', g'⟩ := r'
        obtain ⟨c0, c1, c2, c3, c4, c5⟩ := hr
        obtain ⟨x0, x1, _, _, _, _⟩ := hrj
        dsimp only at c0 c1 c2 c3 c4 c5 x0 x1 HRR HYES HNO
        generalize str key = ks at c2 HRR
        generalize str bod = bs at c3 HRR
        unfold rarr at HRR
        clear hc hlr hj hkp hjl hjk
        cases M with
        | false =>
          haveI : Nonempty (In (RBox w p #[.int .i64 b, .slice (some ⟨b0, o0, none⟩) N c])) := ⟨⟨_, R.out⟩⟩
          have k0 := fun u : In (RBox w p #[.int .i64 b, .slice (some ⟨b0, o0, none⟩) N c]) => (show u.w.cell? ⟨p, 0, none⟩ = some (.int .i64 b) from u.h.cell 0)
          have k1 := fun u : In (RBox w p #[.int .i64 b, .slice (some ⟨b0, o0, none⟩) N c]) => (show u.w.cell? ⟨p, 1, none⟩ = some (.slice (some ⟨b0, o0, none⟩) N c) from u.h.cell 1)
          have kr := fun u : In (RBox w p #[.int .i64 b, .slice (some ⟨b0, o0, none⟩) N c]) => (u.h.out.2.cell (p := ⟨b0, o0 + k * 6, none⟩) hb0).trans c0
          have kt := fun u : In (RBox w p #[.int .i64 b, .slice (some ⟨b0, o0, none⟩) N c]) => (u.h.out.2.cell (p := ⟨b0, o0 + k * 6 + 1, none⟩) hb0).trans c1
          have kl := fun u : In (RBox w p #[.int .i64 b, .slice (some ⟨b0, o0, none⟩) N c]) => load_parts ((u.h.out.2.cell (p := ⟨b0, o0 + k * 6, none⟩) hb0).trans c0) ((u.h.out.2.cell (p := ⟨b0, o0 + k * 6 + 1, none⟩) hb0).trans c1) ((u.h.out.2.cell (p := ⟨b0, o0 + k * 6 + 2, none⟩) hb0).trans c2) ((u.h.out.2.cell (p := ⟨b0, o0 + k * 6 + 3, none⟩) hb0).trans c3) ((u.h.out.2.cell (p := ⟨b0, o0 + k * 6 + 4, none⟩) hb0).trans c4) ((u.h.out.2.cell (p := ⟨b0, o0 + k * 6 + 5, none⟩) hb0).trans c5)
          have kx := fun u : In (RBox w p #[.int .i64 b, .slice (some ⟨b0, o0, none⟩) N c]) => (u.h.out.2.cell (p := ⟨b0, o0 + j * 6, none⟩) hb0).trans x0
          have ky := fun u : In (RBox w p #[.int .i64 b, .slice (some ⟨b0, o0, none⟩) N c]) => (u.h.out.2.cell (p := ⟨b0, o0 + j * 6 + 1, none⟩) hb0).trans x1
          have st0 := R.out
          clear R c0 c1 c2 c3 c4 c5 x0 x1
          go_upto_region 4 with fail
          refine region_in (S := RBox w p #[.int .i64 b, .slice (some ⟨b0, o0, none⟩) N c]) (by kernel_rfl) (by kernel_rfl) (st0.drewN 1) ?_
          iterate 4 (go_big_quiet_step (fail))
          go_big_quiet_want
          refine quiet_load_in 42 (.tmp 14) rfl b0 (o0 + k * 6) rfl _ kl ?_
          go_simp
          go_big_quiet_on
          repeat (go_big_quiet_step (first | (go_at_call 19; exact in_call ((HRR.out _).mono fun _ _ h => ⟨h.1, RBox.below (In.h _) h.2⟩))))
          refine wpQuiet_nil ?_
          rintro _ ⟨⟨w7, st7⟩, rfl⟩
          have S7 := Lib.hid st7
          clear this st0 st7 k0 k1 kr kt kl HRR kx ky
          (try simp only [Bool.not_true, Bool.not_false])
          obtain rfl : X0 = false := HNO.out (fun h => by cases h.1)
          go_wp2_with fail
          go_ret
          exact ⟨rfl, S7.out.out.2⟩
        | true =>
        by_cases h2 : o < b
        · have g3 : decide (o < b) = true := decide_eq_true h2
          haveI : Nonempty (In (RBox w p #[.int .i64 b, .slice (some ⟨b0, o0, none⟩) N c])) := ⟨⟨_, R.out⟩⟩
          have k0 := fun u : In (RBox w p #[.int .i64 b, .slice (some ⟨b0, o0, none⟩) N c]) => (show u.w.cell? ⟨p, 0, none⟩ = some (.int .i64 b) from u.h.cell 0)
          have k1 := fun u : In (RBox w p #[.int .i64 b, .slice (some ⟨b0, o0, none⟩) N c]) => (show u.w.cell? ⟨p, 1, none⟩ = some (.slice (some ⟨b0, o0, none⟩) N c) from u.h.cell 1)
          have kr := fun u : In (RBox w p #[.int .i64 b, .slice (some ⟨b0, o0, none⟩) N c]) => (u.h.out.2.cell (p := ⟨b0, o0 + k * 6, none⟩) hb0).trans c0
          have kt := fun u : In (RBox w p #[.int .i64 b, .slice (some ⟨b0, o0, none⟩) N c]) => (u.h.out.2.cell (p := ⟨b0, o0 + k * 6 + 1, none⟩) hb0).trans c1
          have kl := fun u : In (RBox w p #[.int .i64 b, .slice (some ⟨b0, o0, none⟩) N c]) => load_parts ((u.h.out.2.cell (p := ⟨b0, o0 + k * 6, none⟩) hb0).trans c0) ((u.h.out.2.cell (p := ⟨b0, o0 + k * 6 + 1, none⟩) hb0).trans c1) ((u.h.out.2.cell (p := ⟨b0, o0 + k * 6 + 2, none⟩) hb0).trans c2) ((u.h.out.2.cell (p := ⟨b0, o0 + k * 6 + 3, none⟩) hb0).trans c3) ((u.h.out.2.cell (p := ⟨b0, o0 + k * 6 + 4, none⟩) hb0).trans c4) ((u.h.out.2.cell (p := ⟨b0, o0 + k * 6 + 5, none⟩) hb0).trans c5)
          have kx := fun u : In (RBox w p #[.int .i64 b, .slice (some ⟨b0, o0, none⟩) N c]) => (u.h.out.2.cell (p := ⟨b0, o0 + j * 6, none⟩) hb0).trans x0
          have ky := fun u : In (RBox w p #[.int .i64 b, .slice (some ⟨b0, o0, none⟩) N c]) => (u.h.out.2.cell (p := ⟨b0, o0 + j * 6 + 1, none⟩) hb0).trans x1
          have st0 := R.out
          clear R c0 c1 c2 c3 c4 c5 x0 x1
          go_upto_region 4 with fail
          refine region_in (S := RBox w p #[.int .i64 b, .slice (some ⟨b0, o0, none⟩) N c]) (by kernel_rfl) (by kernel_rfl) (st0.drewN 1) ?_
          iterate 4 (go_big_quiet_step (fail))
          go_big_quiet_want
          refine quiet_load_in 42 (.tmp 14) rfl b0 (o0 + k * 6) rfl _ kl ?_
          go_simp
          go_big_quiet_on
          repeat (go_big_quiet_step (first | (go_at_call 19; exact in_call ((HRR.out _).mono fun _ _ h => ⟨h.1, RBox.below (In.h _) h.2⟩))))
          refine wpQuiet_nil ?_
          rintro _ ⟨⟨w7, st7⟩, rfl⟩
          have S7 := Lib.hid st7
          clear this st0 st7 k0 k1 kr kt kl HRR kx ky
          (try simp only [Bool.not_true, Bool.not_false])
          obtain rfl : X0 = false := HNO.out (fun h => by have := h.2.1; omega)
          go_wp2_with fail
          go_ret
          exact ⟨rfl, S7.out.out.2⟩
        · have g3 : decide (o < b) = false := decide_eq_false h2
          by_cases h3 : o ≤ o'
          · have g4 : decide (o ≤ o') = true := decide_eq_true h3
            haveI : Nonempty (In (RBox w p #[.int .i64 b, .slice (some ⟨b0, o0, none⟩) N c])) := ⟨⟨_, R.out⟩⟩
            have k0 := fun u : In (RBox w p #[.int .i64 b, .slice (some ⟨b0, o0, none⟩) N c]) => (show u.w.cell? ⟨p, 0, none⟩ = some (.int .i64 b) from u.h.cell 0)
            have k1 := fun u : In (RBox w p #[.int .i64 b, .slice (some ⟨b0, o0, none⟩) N c]) => (show u.w.cell? ⟨p, 1, none⟩ = some (.slice (some ⟨b0, o0, none⟩) N c) from u.h.cell 1)
            have kr := fun u : In (RBox w p #[.int .i64 b, .slice (some ⟨b0, o0, none⟩) N c]) => (u.h.out.2.cell (p := ⟨b0, o0 + k * 6, none⟩) hb0).trans c0
            have kt := fun u : In (RBox w p #[.int .i64 b, .slice (some ⟨b0, o0, none⟩) N c]) => (u.h.out.2.cell (p := ⟨b0, o0 + k * 6 + 1, none⟩) hb0).trans c1
            have kl := fun u : In (RBox w p #[.int .i64 b, .slice (some ⟨b0, o0, none⟩) N c]) => load_parts ((u.h.out.2.cell (p := ⟨b0, o0 + k * 6, none⟩) hb0).trans c0) ((u.h.out.2.cell (p := ⟨b0, o0 + k * 6 + 1, none⟩) hb0).trans c1) ((u.h.out.2.cell (p := ⟨b0, o0 + k * 6 + 2, none⟩) hb0).trans c2) ((u.h.out.2.cell (p := ⟨b0, o0 + k * 6 + 3, none⟩) hb0).trans c3) ((u.h.out.2.cell (p := ⟨b0, o0 + k * 6 + 4, none⟩) hb0).trans c4) ((u.h.out.2.cell (p := ⟨b0, o0 + k * 6 + 5, none⟩) hb0).trans c5)
            have kx := fun u : In (RBox w p #[.int .i64 b, .slice (some ⟨b0, o0, none⟩) N c]) => (u.h.out.2.cell (p := ⟨b0, o0 + j * 6, none⟩) hb0).trans x0
            have ky := fun u : In (RBox w p #[.int .i64 b, .slice (some ⟨b0, o0, none⟩) N c]) => (u.h.out.2.cell (p := ⟨b0, o0 + j * 6 + 1, none⟩) hb0).trans x1
            have st0 := R.out
            clear R c0 c1 c2 c3 c4 c5 x0 x1
            go_upto_region 4 with fail
            refine region_in (S := RBox w p #[.int .i64 b, .slice (some ⟨b0, o0, none⟩) N c]) (by kernel_rfl) (by kernel_rfl) (st0.drewN 1) ?_
            iterate 4 (go_big_quiet_step (fail))
            go_big_quiet_want
            refine quiet_load_in 42 (.tmp 14) rfl b0 (o0 + k * 6) rfl _ kl ?_
            go_simp
            go_big_quiet_on
            repeat (go_big_quiet_step (first | (go_at_call 19; exact in_call ((HRR.out _).mono fun _ _ h => ⟨h.1, RBox.below (In.h _) h.2⟩))))
            refine wpQuiet_nil ?_
            rintro _ ⟨⟨w7, st7⟩, rfl⟩
            have S7 := Lib.hid st7
            clear this st0 st7 k0 k1 kr kt kl HRR kx ky
            (try simp only [Bool.not_true, Bool.not_false])
            obtain rfl : X0 = false := HNO.out (fun h => by have := h.2.2.1; omega)
            go_wp2_with fail
            go_ret
            exact ⟨rfl, S7.out.out.2⟩
          · have g4 : decide (o ≤ o') = false := decide_eq_false h3
            by_cases h4 : t < t'
            · have g5 : decide (t < t') = true := decide_eq_true h4
              haveI : Nonempty (In (RBox w p #[.int .i64 b, .slice (some ⟨b0, o0, none⟩) N c])) := ⟨⟨_, R.out⟩⟩
              have k0 := fun u : In (RBox w p #[.int .i64 b, .slice (some ⟨b0, o0, none⟩) N c]) => (show u.w.cell? ⟨p, 0, none⟩ = some (.int .i64 b) from u.h.cell 0)
              have k1 := fun u : In (RBox w p #[.int .i64 b, .slice (some ⟨b0, o0, none⟩) N c]) => (show u.w.cell? ⟨p, 1, none⟩ = some (.slice (some ⟨b0, o0, none⟩) N c) from u.h.cell 1)
              have kr := fun u : In (RBox w p #[.int .i64 b, .slice (some ⟨b0, o0, none⟩) N c]) => (u.h.out.2.cell (p := ⟨b0, o0 + k * 6, none⟩) hb0).trans c0
              have kt := fun u : In (RBox w p #[.int .i64 b, .slice (some ⟨b0, o0, none⟩) N c]) => (u.h.out.2.cell (p := ⟨b0, o0 + k * 6 + 1, none⟩) hb0).trans c1
              have kl := fun u : In (RBox w p #[.int .i64 b, .slice (some ⟨b0, o0, none⟩) N c]) => load_parts ((u.h.out.2.cell (p := ⟨b0, o0 + k * 6, none⟩) hb0).trans c0) ((u.h.out.2.cell (p := ⟨b0, o0 + k * 6 + 1, none⟩) hb0).trans c1) ((u.h.out.2.cell (p := ⟨b0, o0 + k * 6 + 2, none⟩) hb0).trans c2) ((u.h.out.2.cell (p := ⟨b0, o0 + k * 6 + 3, none⟩) hb0).trans c3) ((u.h.out.2.cell (p := ⟨b0, o0 + k * 6 + 4, none⟩) hb0).trans c4) ((u.h.out.2.cell (p := ⟨b0, o0 + k * 6 + 5, none⟩) hb0).trans c5)
              have kx := fun u : In (RBox w p #[.int .i64 b, .slice (some ⟨b0, o0, none⟩) N c]) => (u.h.out.2.cell (p := ⟨b0, o0 + j * 6, none⟩) hb0).trans x0
              have ky := fun u : In (RBox w p #[.int .i64 b, .slice (some ⟨b0, o0, none⟩) N c]) => (u.h.out.2.cell (p := ⟨b0, o0 + j * 6 + 1, none⟩) hb0).trans x1
              have st0 := R.out
              clear R c0 c1 c2 c3 c4 c5 x0 x1
              go_upto_region 4 with fail
              refine region_in (S := RBox w p #[.int .i64 b, .slice (some ⟨b0, o0, none⟩) N c]) (by kernel_rfl) (by kernel_rfl) (st0.drewN 1) ?_
              iterate 4 (go_big_quiet_step (fail))
              go_big_quiet_want
              refine quiet_load_in 42 (.tmp 14) rfl b0 (o0 + k * 6) rfl _ kl ?_
              go_simp
              go_big_quiet_on
              repeat (go_big_quiet_step (first | (go_at_call 19; exact in_call ((HRR.out _).mono fun _ _ h => ⟨h.1, RBox.below (In.h _) h.2⟩))))
              refine wpQuiet_nil ?_
              rintro _ ⟨⟨w7, st7⟩, rfl⟩
              have S7 := Lib.hid st7
              clear this st0 st7 k0 k1 kr kt kl HRR kx ky
              (try simp only [Bool.not_true, Bool.not_false])
              obtain rfl : X0 = false := HNO.out (fun h => by have := h.2.2.2; omega)
              go_wp2_with fail
              go_ret
              exact ⟨rfl, S7.out.out.2⟩
            · have g5 : decide (t < t') = false := decide_eq_false h4
              haveI : Nonempty (In (RBox w p #[.int .i64 b, .slice (some ⟨b0, o0, none⟩) N c])) := ⟨⟨_, R.out⟩⟩
              have k0 := fun u : In (RBox w p #[.int .i64 b, .slice (some ⟨b0, o0, none⟩) N c]) => (show u.w.cell? ⟨p, 0, none⟩ = some (.int .i64 b) from u.h.cell 0)
              have k1 := fun u : In (RBox w p #[.int .i64 b, .slice (some ⟨b0, o0, none⟩) N c]) => (show u.w.cell? ⟨p, 1, none⟩ = some (.slice (some ⟨b0, o0, none⟩) N c) from u.h.cell 1)
              have kr := fun u : In (RBox w p #[.int .i64 b, .slice (some ⟨b0, o0, none⟩) N c]) => (u.h.out.2.cell (p := ⟨b0, o0 + k * 6, none⟩) hb0).trans c0
              have kt := fun u : In (RBox w p #[.int .i64 b, .slice (some ⟨b0, o0, none⟩) N c]) => (u.h.out.2.cell (p := ⟨b0, o0 + k * 6 + 1, none⟩) hb0).trans c1
              have kl := fun u : In (RBox w p #[.int .i64 b, .slice (some ⟨b0, o0, none⟩) N c]) => load_parts ((u.h.out.2.cell (p := ⟨b0, o0 + k * 6, none⟩) hb0).trans c0) ((u.h.out.2.cell (p := ⟨b0, o0 + k * 6 + 1, none⟩) hb0).trans c1) ((u.h.out.2.cell (p := ⟨b0, o0 + k * 6 + 2, none⟩) hb0).trans c2) ((u.h.out.2.cell (p := ⟨b0, o0 + k * 6 + 3, none⟩) hb0).trans c3) ((u.h.out.2.cell (p := ⟨b0, o0 + k * 6 + 4, none⟩) hb0).trans c4) ((u.h.out.2.cell (p := ⟨b0, o0 + k * 6 + 5, none⟩) hb0).trans c5)
              have kx := fun u : In (RBox w p #[.int .i64 b, .slice (some ⟨b0, o0, none⟩) N c]) => (u.h.out.2.cell (p := ⟨b0, o0 + j * 6, none⟩) hb0).trans x0
              have ky := fun u : In (RBox w p #[.int .i64 b, .slice (some ⟨b0, o0, none⟩) N c]) => (u.h.out.2.cell (p := ⟨b0, o0 + j * 6 + 1, none⟩) hb0).trans x1
              have st0 := R.out
              clear R c0 c1 c2 c3 c4 c5 x0 x1
              go_upto_region 4 with fail
              refine region_in (S := RBox w p #[.int .i64 b, .slice (some ⟨b0, o0, none⟩) N c]) (by kernel_rfl) (by kernel_rfl) (st0.drewN 1) ?_
              iterate 4 (go_big_quiet_step (fail))
              go_big_quiet_want
              refine quiet_load_in 42 (.tmp 14) rfl b0 (o0 + k * 6) rfl _ kl ?_
              go_simp
              go_big_quiet_on
              repeat (go_big_quiet_step (first | (go_at_call 19; exact in_call ((HRR.out _).mono fun _ _ h => ⟨h.1, RBox.below (In.h _) h.2⟩))))
              refine wpQuiet_nil ?_
              rintro _ ⟨⟨w7, st7⟩, rfl⟩
              have S7 := Lib.hid st7
              clear this st0 st7 k0 k1 kr kt kl HRR kx ky
              (try simp only [Bool.not_true, Bool.not_false])
              go_wp2_with fail
              go_roundw
              case rel => exact ⟨k + 1, hlt, by go_num, S7.out, HYES.out (⟨rfl, by omega, by omega, by omega⟩)⟩
              case measure => simp [RowKit.intOf]; omega
    · obtain rfl : k = N := by omega
      have HALL := Lib.hid (show X0 = (baseB b && decide (k ≤ 200)) by
        rw [← HX.out, Bool.eq_iff_iff, Bool.and_eq_true, decide_eq_true_iff]
        refine ⟨fun h => (by rw [← HNN.out]; exact (seg_doc.1 h).1), fun h => seg_doc.2 ⟨by rw [HNN.out]; exact h, fun i hi => HD.out i hi (by rw [← HNN.out]; exact hi)⟩⟩)
      have HNU := Lib.hid (fun X W (h : decide (0 ≤ b ∧ b ≤ 1099511627776) = X) => RNum_is b 1099511627776 X W h)
      have d0 : wr.cell? ⟨p, 0, none⟩ = some (.int .i64 b) := R.out.cell 0
      unfold baseB at HALL
      clear HD
      obtain ⟨Y, hY⟩ : ∃ Y, decide (0 ≤ b ∧ b ≤ 1099511627776) = Y := ⟨_, rfl⟩
      rw [hY] at HALL
      have HNU1 := Lib.hid (fun W => HNU.out Y W hY)
      clear HNU hY
      cases Y with
      | true =>
        go_wp2_with (go_at_call 22; refine (HNU1.out _).mono ?_; rintro e w' ⟨rfl, rfl⟩)
        go_ret
        exact ⟨ret_bool (by rw [HALL.out, Bool.true_and]; exact decide_eq_decide.2 (by omega)), R.out.out.2⟩
      | false =>
        go_wp2_with (go_at_call 22; refine (HNU1.out _).mono ?_; rintro e w' ⟨rfl, rfl⟩)
        go_ret
        exact ⟨ret_bool (by rw [HALL.out]; rfl), R.out.out.2⟩
end Go.Proofs.YthhpmhibkbndhaaDoor
/- The document's own answer, and numbers as bytes. -/
/- Package rec: the bytes of any record, or its error. -/
namespace Go.Proofs.YthhpmhibkbndhaaDoor
open Go.RowKit Go.Lib Vbi Rcd Crc

def bytesE (r : Rc) : ByteArray := if mayB r then str (recL r) else ⟨#[]⟩
theorem two_of (n : Nat) (h : n < 65536) : fixStr 2 (n : Int) = str (fx 2 n) ∧ fixErr 2 (n : Int) = 0 := by
  obtain ⟨e1, e2⟩ := fix2_of n h
  exact ⟨e1.trans (str_fx _ _), e2⟩
theorem four_of (n : Nat) (h : n < 4294967296) : fixStr 4 (n : Int) = str (fx 4 n) ∧ fixErr 4 (n : Int) = 0 := by
  rcases fix_cases 4 (n : Int) with ⟨_, _, e1, e2⟩ | ⟨h0, _⟩
  · exact ⟨e2.trans (str_fx _ _), e1⟩
  · omega

set_option maxRecDepth 100000 in
set_option maxHeartbeats 4000000 in
theorem Bytes_good (r : Rc) (S : ByteArray) (w : World) (h : mayB r = true) (ht : Tab w) (hS : str (recL r) = S) :
    Calls Tryd.prog 28 #[ragg r] w fun e w' => e = .returned (.tuple #[.string S, .int .i64 0]) ∧ Below w.heap.size w w' := by
  have hE : mayE r = 0 := by unfold mayE; rw [h]; rfl
  have HC := Lib.hid (fun W => Check_is r 0 W hE)
  have hbl := body_len r
  obtain ⟨_, _, _, _, h5, h6, _⟩ := (may_iff r).1 h
  have HPB := Lib.hid (fun W => putBody_is r _ W h rfl)
  have hbz := str_size (bodyL r)
  obtain ⟨hT1, hT2⟩ := two_of (bodyL r).length (by omega)
  obtain ⟨N, hN⟩ : ∃ N, sumN 0 (fx 2 (bodyL r).length ++ bodyL r) = N := ⟨_, rfl⟩
  have hN32 : N < 4294967296 := by rw [← hN]; exact sum_lt _ _
  obtain ⟨hF1, hF2⟩ := four_of N hN32
  have hS2 : (str (fx 2 (bodyL r).length) ++ str (fx 4 N)) ++ str (bodyL r) = S := by
    rw [str_add, str_add, ← hS]
    unfold recL sealL
    rw [hN, List.append_assoc]
  have hsd : (str (fx 2 (bodyL r).length)).data.toList = fx 2 (bodyL r).length := str_data _
  have hbd : (str (bodyL r)).data.toList = bodyL r := str_data _
  have hz1 : (str (fx 2 (bodyL r).length)).size = 2 := by rw [str_size, fx_len]
  have hz2 : (str (fx 4 N)).size = 4 := by rw [str_size, fx_len]
  rw [← hbz] at hbl
  have HT := Lib.hid (fun W => Two_is ((str (bodyL r)).size : Int) (str (fx 2 (bodyL r).length)) 0 W (by omega) (by rw [hbz]; exact hT1) (by rw [hbz]; exact hT2))
  have HF := Lib.hid (fun W => Four_is (N : Int) _ _ W (by omega) hF1 hF2)
  have HL := Lib.hid (fun W (hb : Below w.heap.size w W) => sealOf_is (str (fx 2 (bodyL r).length)) (str (bodyL r)) N W (by omega) (by omega) (ht.below hb) (by rw [hsd, hbd]; exact hN))
  have hbl2 : (str (bodyL r)).size ≤ 3000 := by omega
  clear hbl
  have R0 := Lib.hid (RBox.new w 42 (rarr r.o r.t (str r.k) (str r.b) r.q r.g))
  unfold ragg at HC HPB ⊢
  obtain ⟨cs, hcs⟩ : ∃ cs, cs = rarr r.o r.t (str r.k) (str r.b) r.q r.g := ⟨_, rfl⟩
  have HC6 : Hid (cs.size = 6) := by show _ = _; rw [hcs]; rfl
  rw [← hcs] at HC HPB R0 ⊢
  clear hcs h hE hT1 hT2 hF1 hF2 hN hsd hbd ht hbz hS
  generalize str (bodyL r) = B at HPB HT HL hS2 hbl2
  generalize str (fx 2 (bodyL r).length) = H at HT HL hS2 hz1
  generalize str (fx 4 N) = F at HF hS2 hz2
  subst hS2
  obtain ⟨W0, hW⟩ : ∃ W0, w.alloc (.cells cs 42) = W0 := ⟨_, rfl⟩
  rw [hW] at R0
  have HW := Lib.hid hW
  clear hW
  go_enter Tryd.func28, Tryd.ntmps28
  go_upto_region 1 with fail
  rw [HW.out]
  clear HW
  obtain ⟨p, hp⟩ : ∃ p, w.heap.size = p := ⟨_, rfl⟩
  rw [hp] at R0
  have hld := R0.out.load HC6.out
  rw [hp]
  clear hp
  go_wp2_with (refine wpList_load_any (by rfl) 42 (.tmp 1) rfl p 0 rfl _ hld ?_; simp only [Act.put])
  refine (HC.out _).mono ?_
  rintro e w1 ⟨rfl, hb1⟩
  have R1 := Lib.hid (R0.out.below hb1)
  have hld := R1.out.load HC6.out
  clear R0 hb1 HC
  go_wp2_with (refine wpList_load_any (by rfl) 42 (.tmp 1) rfl p 0 rfl _ hld ?_; simp only [Act.put])
  refine (HPB.out _).mono ?_
  rintro e w2 ⟨rfl, hb2⟩
  have R2 := Lib.hid (R1.out.below hb2)
  clear R1 hb2 HPB hld
  go_wp2_with fail
  refine (HT.out _).mono ?_
  rintro e w3 ⟨rfl, hb3⟩
  have R3 := Lib.hid (R2.out.below hb3)
  clear R2 hb3 HT
  go_wp2_with fail
  refine (HL.out _ R3.out.out.2).mono ?_
  rintro e w4 ⟨rfl, hb4⟩
  have R4 := Lib.hid (R3.out.below hb4)
  clear R3 hb4 HL
  go_wp2_with fail
  refine (HF.out _).mono ?_
  rintro e w5 ⟨rfl, hb5⟩
  have R5 := Lib.hid (R4.out.below hb5)
  clear R4 hb5 HF
  go_wp2_with fail
  go_ret2
  exact ⟨rfl, R5.out.out.2⟩
set_option maxRecDepth 100000 in
set_option maxHeartbeats 4000000 in
theorem Bytes_bad (r : Rc) (w : World) (h : mayB r = false) :
    Calls Tryd.prog 28 #[ragg r] w fun e w' => e = .returned (.tuple #[.string ⟨#[]⟩, .int .i64 1]) ∧ Below w.heap.size w w' := by
  have hE : mayE r = 1 := by unfold mayE; rw [h]; rfl
  have HC := Lib.hid (fun W => Check_is r 1 W hE)
  have R0 := Lib.hid (RBox.new w 42 (rarr r.o r.t (str r.k) (str r.b) r.q r.g))
  unfold ragg at HC ⊢
  obtain ⟨cs, hcs⟩ : ∃ cs, cs = rarr r.o r.t (str r.k) (str r.b) r.q r.g := ⟨_, rfl⟩
  have HC6 : Hid (cs.size = 6) := by show _ = _; rw [hcs]; rfl
  rw [← hcs] at HC R0 ⊢
  clear hcs h hE
  obtain ⟨W0, hW⟩ : ∃ W0, w.alloc (.cells cs 42) = W0 := ⟨_, rfl⟩
  rw [hW] at R0
  have HW := Lib.hid hW
  clear hW
  go_enter Tryd.func28, Tryd.ntmps28
  go_upto_region 1 with fail
  rw [HW.out]
  clear HW
  obtain ⟨p, hp⟩ : ∃ p, w.heap.size = p := ⟨_, rfl⟩
  rw [hp] at R0
  have hld := R0.out.load HC6.out
  rw [hp]
  clear hp
  go_wp2_with (refine wpList_load_any (by rfl) 42 (.tmp 1) rfl p 0 rfl _ hld ?_; simp only [Act.put])
  refine (HC.out _).mono ?_
  rintro e w1 ⟨rfl, hb1⟩
  have R1 := Lib.hid (R0.out.below hb1)
  clear R0 hb1 HC
  go_wp2_with fail
  go_ret2
  exact ⟨rfl, R1.out.out.2⟩
/-- rec.Bytes. -/
theorem Bytes_is (r : Rc) (S : ByteArray) (E : Int) (w : World) (ht : Tab w) (hS : bytesE r = S) (hE : mayE r = E) :
    Calls Tryd.prog 28 #[ragg r] w fun e w' => e = .returned (.tuple #[.string S, .int .i64 E]) ∧ Below w.heap.size w w' := by
  subst hS hE
  unfold bytesE mayE
  cases h : mayB r with
  | true => exact Bytes_good r _ w h ht rfl
  | false => exact Bytes_bad r w h
end Go.Proofs.YthhpmhibkbndhaaDoor
/- The document's own answer: the sum of bytes, bit by bit. -/
namespace Go.Proofs.YthhpmhibkbndhaaDoor
open Go.RowKit Go.Lib Crc

def Rk : Nat → Nat → Nat
  | 0, s => s
  | k + 1, s => Rk k (R s)
theorem low_bit (n : Nat) (hn : n < 4294967296) : bits .and .u32 (n : Int) 1 = ((n % 2 : Nat) : Int) := by
  have e := u32_and_nat n 1 hn (by omega)
  rw [nat_mask1] at e
  exact e
theorem xor_poly (n : Nat) (hn : n < 4294967296) (h : n % 2 = 1) : bits .xor .u32 ((n : Int) / 2) 2197175160 = ((R n : Nat) : Int) := by
  have e := u32_xor_nat (n / 2) 2197175160 (by omega) (by omega)
  have e2 : (((n / 2 : Nat)) : Int) = (n : Int) / 2 := by omega
  rw [e2] at e
  rw [R_odd h]
  exact e

set_option maxRecDepth 100000 in
set_option maxHeartbeats 2000000 in
theorem RSum_any (s : Nat) (b : ByteArray) (w : World) (hs : s < 4294967296) (hb : b.size ≤ 9223372036854775807) :
    Calls Tryd.prog 38 #[.int .u32 (s : Int), .string b] w fun e w' => e = .returned (.int .u32 ((sumN s b.data.toList : Nat) : Int)) ∧ w = w' := by
  have HN := not_u32 s hs
  have HZ : Hid (b.data.toList.length = b.size) := by show _ = _; rw [Array.length_toList]; rfl
  go_enter Tryd.func38, Tryd.ntmps38
  go_wp2_with fail
  clear HN
  go_loop [0, 5] (fun v i => ∃ k m : Nat, k ≤ b.size ∧ i = .int .i64 (k : Int) ∧ v = .int .u32 (m : Int) ∧ m < 4294967296 ∧ m = crc (4294967295 - s) (b.data.toList.take k)) (fun _ i => b.size - (RowKit.intOf i).toNat)
  case atStart => exact ⟨0, _, Nat.zero_le _, rfl, rfl, by omega, rfl⟩
  case round =>
    obtain ⟨k, m, hk, rfl, rfl, hm, hcrc⟩ := hrel
    by_cases hlt : k < b.size
    · have hkl : k < b.data.toList.length := by rw [HZ.out]; exact hlt
      have hne : ¬ b = ByteArray.empty := by intro h; rw [h] at hlt; exact absurd hlt (by simp)
      have hx256 : (b[k]'hlt).toNat < 256 := (b[k]'hlt).toNat_lt
      have HX := xor_byte m (b[k]'hlt) hm
      have h2 := byte_lt hm (b[k]'hlt)
      have hc := crc_next (4294967295 - s) b.data.toList k hkl
      rw [← hcrc, step2_eq] at hc
      have hx0 : b.data.toList.getD k 0 = b[k]'hlt := by rw [List.getD_eq_getElem?_getD, List.getElem?_eq_getElem hkl]; rfl
      rw [hx0] at hc
      have HC := Lib.hid hc
      clear hkl hc hx0 hcrc
      go_wp2_with fail
      clear HX
      go_loop [0, 6] (fun v i => ∃ j n : Nat, j ≤ 8 ∧ i = .int .i64 (j : Int) ∧ v = .int .u32 (n : Int) ∧ n < 4294967296 ∧ Rk (8 - j) n = R8 (m ^^^ (b[k]'hlt).toNat)) (fun _ i => 8 - (RowKit.intOf i).toNat)
      case atStart => exact ⟨0, _, by omega, rfl, rfl, h2, rfl⟩
      case round =>
        obtain ⟨j, n, hj, rfl, rfl, hn, hr⟩ := hrel
        by_cases hj8 : j < 8
        · have hr2 : Rk (8 - (j + 1)) (R n) = R8 (m ^^^ (b[k]'hlt).toNat) := by
            rw [← hr, show 8 - j = (8 - (j + 1)) + 1 by omega]; rfl
          have hR := R_lt hn
          by_cases ho : n % 2 = 1
          · have HP := xor_poly n hn ho
            have HQ := Lib.hid hr2
            have HR := Lib.hid hR
            have hd := low_bit n hn
            rw [ho] at hd
            clear hr hr2 hR ho
            go_wp2_with fail
            go_round
            case rel => exact ⟨j + 1, _, by omega, by go_num, rfl, HR.out, HQ.out⟩
            case measure => simp [RowKit.intOf]; omega
          · have hE : n / 2 = R n := (R_even ho).symm
            rw [← hE] at hr2 hR
            have HQ := Lib.hid hr2
            have HR := Lib.hid hR
            have hd := low_bit n hn
            rw [show n % 2 = 0 by omega] at hd
            clear hr hr2 hR ho hE
            go_wp2_with fail
            go_round
            case rel => exact ⟨j + 1, n / 2, by omega, by go_num, by go_num, HR.out, HQ.out⟩
            case measure => simp [RowKit.intOf]; omega
        · obtain rfl : j = 8 := by omega
          have hd : n = crc (4294967295 - s) (b.data.toList.take (k + 1)) := (show n = R8 (m ^^^ (b[k]'hlt).toNat) from hr).trans HC.out
          have HD := Lib.hid hd
          clear hd hr
          go_wp2_with fail
          go_round
          case rel => exact ⟨k + 1, n, hlt, by go_num, rfl, hn, HD.out⟩
          case measure => simp [RowKit.intOf]; omega
    · have he : m = crc (4294967295 - s) b.data.toList := by rw [hcrc, List.take_of_length_le (by rw [HZ.out]; omega)]
      have HN := not_u32 m hm
      have HE := Lib.hid he
      clear he hcrc
      go_wp2_with fail
      go_ret
      exact ⟨ret_int (by rw [HE.out]; rfl), rfl⟩
theorem RSum_is (s : Nat) (b : ByteArray) (N : Nat) (w : World) (hs : s < 4294967296) (hb : b.size ≤ 9223372036854775807) (hN : sumN s b.data.toList = N) :
    Calls Tryd.prog 38 #[.int .u32 (s : Int), .string b] w fun e w' => e = .returned (.int .u32 (N : Int)) ∧ w = w' := by
  rw [← hN]
  exact RSum_any s b w hs hb
end Go.Proofs.YthhpmhibkbndhaaDoor
