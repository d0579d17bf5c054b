/- Package rec: what bytes begin with; a record taken. -/
import Derived.Test.YtimoncjdfmfojaaDoorRcTakeBody
namespace Go.Proofs.YtimoncjdfmfojaaDoor
open Go.RowKit Go.Lib Vbi Rcd Crc

/-- A whole record and how many bytes it has, as a value. -/
def warr (o t : Int) (k b : ByteArray) (q : Int) (g : Bool) (n : Int) : Array Value := #[.int .i64 o, .int .i64 t, .string k, .string b, .int .i64 q, .bool g, .int .i64 n]
def firstV (x : Rc × Nat × Int) : Value := if x.2.2 = 0 then .iface 65 (.agg (warr x.1.o x.1.t (str x.1.k) (str x.1.b) x.1.q x.1.g (x.2.1 : Int))) else .iface 31 (.int .i64 x.2.2)
theorem firstV_ok (R : Rc) (n : Nat) : firstV (R, n, 0) = .iface 65 (.agg (warr R.o R.t (str R.k) (str R.b) R.q R.g (n : Int))) := by unfold firstV; rw [if_pos rfl]
theorem firstV_bad (R : Rc) (n : Nat) (E : Int) (h : ¬ E = 0) : firstV (R, n, E) = .iface 31 (.int .i64 E) := by unfold firstV; rw [if_neg h]

/-- The five ways that bytes may begin. -/
theorem take_ways (l : List UInt8) (n F N : Nat) (hn : fixVal (l.take 2) = n) (hF : fixVal ((l.drop 2).take 4) = F) (hN : sumN 0 (l.take 2 ++ (l.drop 6).take n) = N) : (l.length < 6 ∧ takeR l = (zero, 0, 7)) ∨ (6 ≤ l.length ∧ l.length < 6 + n ∧ takeR l = (zero, 0, 7)) ∨
    (6 ≤ l.length ∧ 6 + n ≤ l.length ∧ ¬ F = N ∧ takeR l = (zero, 0, 8)) ∨
    (6 ≤ l.length ∧ 6 + n ≤ l.length ∧ F = N ∧ ¬ (parse ((l.drop 6).take n)).2 = 0 ∧ takeR l = (zero, 0, 8)) ∨
    (6 ≤ l.length ∧ 6 + n ≤ l.length ∧ F = N ∧ (parse ((l.drop 6).take n)).2 = 0 ∧ takeR l = ((parse ((l.drop 6).take n)).1, 6 + n, 0)) := by
  unfold takeR
  rw [hn, hF, hN]
  by_cases c1 : l.length < 6
  · rw [if_pos c1]; exact .inl ⟨c1, rfl⟩
  · rw [if_neg c1]
    by_cases c2 : l.length < 6 + n
    · rw [if_pos c2]; exact .inr (.inl ⟨by omega, c2, rfl⟩)
    · rw [if_neg c2]
      by_cases c3 : F = N
      · rw [if_pos c3]
        by_cases c4 : (parse ((l.drop 6).take n)).2 = 0
        · rw [if_pos c4]; exact .inr (.inr (.inr (.inr ⟨by omega, by omega, c3, c4, rfl⟩)))
        · rw [if_neg c4]; exact .inr (.inr (.inr (.inl ⟨by omega, by omega, c3, c4, rfl⟩)))
      · rw [if_neg c3]; exact .inr (.inr (.inl ⟨by omega, by omega, c3, rfl⟩))

theorem ext_drop (s : ByteArray) (a : Nat) (h : a ≤ s.size) : (s.extract a s.size).data.toList = s.data.toList.drop a := by
  rw [Lib.extract_data]; exact List.take_of_length_le (by rw [List.length_drop, size_list]; omega)
theorem ext_take (s : ByteArray) (a : Nat) : (s.extract 0 a).data.toList = s.data.toList.take a := by
  rw [Lib.extract_data, List.drop_zero, Nat.sub_zero]
theorem ext_mid (s : ByteArray) (a n : Nat) : (s.extract a (a + n)).data.toList = (s.data.toList.drop a).take n := by
  rw [Lib.extract_data, show a + n - a = n by omega]

set_option maxRecDepth 100000 in
set_option maxHeartbeats 4000000 in
/-- rec.first. -/
theorem first_is (s : ByteArray) (V : Value) (w : World) (hm : s.size ≤ 1000000) (ht : Tab w) (h : firstV (takeR s.data.toList) = V) :
    Calls Tryd.prog 34 #[.string s] w fun e w' => e = .returned V ∧ Below w.heap.size w w' := by
  have hl := size_list s
  have HTab := Lib.hid ht
  clear ht
  obtain ⟨n, hn⟩ : ∃ n, fixVal (s.data.toList.take 2) = n := ⟨_, rfl⟩
  obtain ⟨F, hF⟩ : ∃ F, fixVal ((s.data.toList.drop 2).take 4) = F := ⟨_, rfl⟩
  obtain ⟨N, hN⟩ : ∃ N, sumN 0 (s.data.toList.take 2 ++ (s.data.toList.drop 6).take n) = N := ⟨_, rfl⟩
  have hn16 : n < 65536 := by rw [← hn]; exact fixVal_two _
  rcases take_ways s.data.toList n F N hn hF hN with ⟨h1, e⟩ | ⟨h1, h2, e⟩ | ⟨h1, h2, h3, e⟩ | ⟨h1, h2, h3, h4, e⟩ | ⟨h1, h2, h3, h4, e⟩
  · rw [e, firstV_bad _ _ _ (by decide)] at h
    subst h
    have hd : decide ((s.size : Int) < 6) = true := by rw [decide_eq_true_eq]; omega
    clear e h1 hl hn hF hN
    go_enter Tryd.func34, Tryd.ntmps34
    go_wp2_with fail
    go_ret
    exact ⟨rfl, Below.refl _ _⟩
  all_goals
    have HT2 := Lib.hid (fun W => TakeTwo_good s n W (by omega) (by omega) hn)
    have hd : decide ((s.size : Int) < 6) = false := by rw [decide_eq_false_iff_not]; omega
  · rw [e, firstV_bad _ _ _ (by decide)] at h
    subst h
    have hd2 : decide ((s.size : Int) < 6 + (n : Int)) = true := by rw [decide_eq_true_eq]; omega
    clear e h1 hl hn h2 hF hN
    go_enter Tryd.func34, Tryd.ntmps34
    go_wp2_with fail
    refine (HT2.out _).mono ?_
    rintro e w1 ⟨rfl, rfl⟩
    go_wp2_with fail
    go_ret
    exact ⟨rfl, Below.refl _ _⟩
  all_goals
    have HT4 := Lib.hid (fun W => TakeFour_good (s.extract 2 s.size) F W (by rw [ByteArray.size_extract]; omega) (by rw [ByteArray.size_extract]; omega) (by rw [ext_drop s 2 (by omega)]; exact hF))
    have HSL := Lib.hid (fun W (ht : Tab W) => sealOf_is (s.extract 0 2) (s.extract 6 (6 + n)) N W (by rw [ByteArray.size_extract]; omega) (by rw [ByteArray.size_extract]; omega) ht (by rw [ext_take, ext_mid]; exact hN))
    have hd2 : decide ((s.size : Int) < 6 + (n : Int)) = false := by rw [decide_eq_false_iff_not]; omega
    have h2I : (2 : Int) ≤ (s.size : Int) := by omega
    have h6I : 6 + (n : Int) ≤ (s.size : Int) := by omega
    have h60 : (6 : Int) ≤ 6 + (n : Int) := by omega
  · rw [e, firstV_bad _ _ _ (by decide)] at h
    subst h
    have hne : ((F : Int) != (N : Int)) = true := by rw [bne_iff_ne]; omega
    have hne2 : ¬ (F : Int) = (N : Int) := by omega
    clear e h1 hl hn h2 h3 hF hN
    go_enter Tryd.func34, Tryd.ntmps34
    go_wp2_with fail
    refine (HT2.out _).mono ?_
    rintro e w1 ⟨rfl, rfl⟩
    go_wp2_with fail
    refine (HT4.out _).mono ?_
    rintro e w1 ⟨rfl, rfl⟩
    go_wp2_with fail
    refine (HSL.out _ HTab.out).mono ?_
    rintro e w1 ⟨rfl, hb1⟩
    go_wp2_with fail
    go_ret
    exact ⟨rfl, hb1⟩
  all_goals
    subst h3
    obtain ⟨R, E, hP⟩ : ∃ R E, parse ((s.data.toList.drop 6).take n) = (R, E) := ⟨_, _, rfl⟩
    rw [hP] at h4
    dsimp only at h4
    have HTB := Lib.hid (fun W => takeBody_is (s.extract 6 (6 + n)) R E W (by rw [ByteArray.size_extract]; omega) (by rw [ext_mid]; exact hP))
    unfold ragg at HTB
    obtain ⟨o, t, k, b, q, g⟩ := R
    dsimp only at HTB
  · rw [e, firstV_bad _ _ _ (by decide)] at h
    subst h
    have hne2 : (E != 0) = true := by rw [bne_iff_ne]; exact h4
    clear e h1 hl hn h2 hF hN hP
    generalize str k = ks at HTB ⊢
    generalize str b = bs at HTB ⊢
    go_enter Tryd.func34, Tryd.ntmps34
    go_wp2_with fail
    refine (HT2.out _).mono ?_
    rintro e w1 ⟨rfl, rfl⟩
    go_wp2_with fail
    refine (HT4.out _).mono ?_
    rintro e w1 ⟨rfl, rfl⟩
    go_wp2_with fail
    refine (HSL.out _ HTab.out).mono ?_
    rintro e w1 ⟨rfl, hb1⟩
    have HB1 := Lib.hid hb1
    clear hb1 HSL HT2 HT4 HTab
    go_wp2_with fail
    refine (HTB.out _).mono ?_
    rintro e w2 ⟨rfl, hb2⟩
    have HB2 := Lib.hid (HB1.out.trans (hb2.mono HB1.out.size))
    clear hb2 HB1 HTB
    have hbn := Blk.new w2 28 zcells
    have hbl := HB2.out.alloc HB2.out.size (.cells zcells 28)
    obtain ⟨g9, hg9⟩ : ∃ k, w2.heap.size = k := ⟨_, rfl⟩
    obtain ⟨W4, hW4⟩ : ∃ W, w2.alloc (.cells zcells 28) = W := ⟨_, rfl⟩
    have hg9w : w.heap.size ≤ g9 := by rw [← hg9]; exact HB2.out.size
    rw [hW4, hg9] at hbn
    rw [hW4] at hbl
    have HBN := Lib.hid hbn
    have HBL := Lib.hid (below_row hbl hg9w (rarr o t ks bs q g))
    have HBR := Lib.hid (hbn.row (rarr o t ks bs q g))
    unfold zcells at hW4
    have HW4 := Lib.hid hW4
    clear hbn hbl hW4 HB2
    go_upto_region 12 with (rw [HW4.out]; refine wpList_store_whole rfl 28 (.tmp 9) (.tmp 46) rfl g9 (rarr o t ks bs q g) rfl rfl zcells HBN.out info_rec rfl (one_arr _ _ _ _ _ _) ?_; simp only [Act.put])
    clear hg9 HW4 HBN
    generalize World.setRow _ _ _ = w5 at HBL HBR ⊢
    clear HBR
    go_wp2_with fail
    go_ret
    exact ⟨rfl, HBL.out⟩
  · rw [e, hP, firstV_ok] at h
    subst h4
    clear e h1 hl hn h2 hF hN hP
    unfold warr at h
    dsimp only at h
    have hnn : ((6 + n : Nat) : Int) = 6 + (n : Int) := by omega
    rw [hnn] at h
    clear hnn
    generalize str k = ks at HTB h
    generalize str b = bs at HTB h
    go_enter Tryd.func34, Tryd.ntmps34
    go_wp2_with fail
    refine (HT2.out _).mono ?_
    rintro e w1 ⟨rfl, rfl⟩
    go_wp2_with fail
    refine (HT4.out _).mono ?_
    rintro e w1 ⟨rfl, rfl⟩
    go_wp2_with fail
    refine (HSL.out _ HTab.out).mono ?_
    rintro e w1 ⟨rfl, hb1⟩
    have HB1 := Lib.hid hb1
    clear hb1 HSL HT2 HT4 HTab
    go_wp2_with fail
    refine (HTB.out _).mono ?_
    rintro e w2 ⟨rfl, hb2⟩
    have HB2 := Lib.hid (HB1.out.trans (hb2.mono HB1.out.size))
    clear hb2 HB1 HTB
    have hbn := Blk.new w2 28 zcells
    have hbl := HB2.out.alloc HB2.out.size (.cells zcells 28)
    obtain ⟨g9, hg9⟩ : ∃ k, w2.heap.size = k := ⟨_, rfl⟩
    obtain ⟨W4, hW4⟩ : ∃ W, w2.alloc (.cells zcells 28) = W := ⟨_, rfl⟩
    have hg9w : w.heap.size ≤ g9 := by rw [← hg9]; exact HB2.out.size
    rw [hW4, hg9] at hbn
    rw [hW4] at hbl
    have HBN := Lib.hid hbn
    have HBL := Lib.hid (below_row hbl hg9w (rarr o t ks bs q g))
    have HBR := Lib.hid (hbn.row (rarr o t ks bs q g))
    unfold zcells at hW4
    have HW4 := Lib.hid hW4
    clear hbn hbl hW4 HB2
    go_upto_region 12 with (rw [HW4.out]; refine wpList_store_whole rfl 28 (.tmp 9) (.tmp 46) rfl g9 (rarr o t ks bs q g) rfl rfl zcells HBN.out info_rec rfl (one_arr _ _ _ _ _ _) ?_; simp only [Act.put])
    clear hg9 HW4 HBN
    generalize World.setRow _ _ _ = w5 at HBL HBR ⊢
    have hld := load_blk HBR.out rfl
    subst h
    generalize Value.tuple _ = vt
    unfold rarr at hld
    clear HBR
    go_wp2_with (refine wpList_load_any (by rfl) 28 (.tmp 9) rfl g9 0 rfl _ hld ?_; simp only [Act.put])
    go_ret
    exact ⟨rfl, HBL.out⟩
end Go.Proofs.YtimoncjdfmfojaaDoor
