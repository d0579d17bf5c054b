/- Package rec: the bytes of any record, or its error. -/
import Derived.Test.YtimoncjdfmfojaaDoorRcBody
namespace Go.Proofs.YtimoncjdfmfojaaDoor
open Go.RowKit Go.Lib Vbi Rcd Crc

def bytesE (r : Rc) : ByteArray := if mayB r then str (recL r) else ⟨#[]⟩
theorem two_of (n : Nat) (h : n < 65536) : fixStr 2 (n : Int) = str (fx 2 n) ∧ fixErr 2 (n : Int) = 0 := by
  obtain ⟨e1, e2⟩ := fix2_of n h
  exact ⟨e1.trans (str_fx _ _), e2⟩
theorem four_of (n : Nat) (h : n < 4294967296) : fixStr 4 (n : Int) = str (fx 4 n) ∧ fixErr 4 (n : Int) = 0 := by
  rcases fix_cases 4 (n : Int) with ⟨_, _, e1, e2⟩ | ⟨h0, _⟩
  · exact ⟨e2.trans (str_fx _ _), e1⟩
  · omega

set_option maxRecDepth 100000 in
set_option maxHeartbeats 4000000 in
theorem Bytes_good (r : Rc) (S : ByteArray) (w : World) (h : mayB r = true) (ht : Tab w) (hS : str (recL r) = S) :
    Calls Tryd.prog 10 #[ragg r] w fun e w' => e = .returned (.tuple #[.string S, .int .i64 0]) ∧ Below w.heap.size w w' := by
  have hE : mayE r = 0 := by unfold mayE; rw [h]; rfl
  have HC := Lib.hid (fun W => Check_is r 0 W hE)
  have hbl := body_len r
  obtain ⟨_, _, _, _, h5, h6, _⟩ := (may_iff r).1 h
  have HPB := Lib.hid (fun W => putBody_is r _ W h rfl)
  have hbz := str_size (bodyL r)
  obtain ⟨hT1, hT2⟩ := two_of (bodyL r).length (by omega)
  obtain ⟨N, hN⟩ : ∃ N, sumN 0 (fx 2 (bodyL r).length ++ bodyL r) = N := ⟨_, rfl⟩
  have hN32 : N < 4294967296 := by rw [← hN]; exact sum_lt _ _
  obtain ⟨hF1, hF2⟩ := four_of N hN32
  have hS2 : (str (fx 2 (bodyL r).length) ++ str (fx 4 N)) ++ str (bodyL r) = S := by
    rw [str_add, str_add, ← hS]
    unfold recL sealL
    rw [hN, List.append_assoc]
  have hsd : (str (fx 2 (bodyL r).length)).data.toList = fx 2 (bodyL r).length := str_data _
  have hbd : (str (bodyL r)).data.toList = bodyL r := str_data _
  have hz1 : (str (fx 2 (bodyL r).length)).size = 2 := by rw [str_size, fx_len]
  have hz2 : (str (fx 4 N)).size = 4 := by rw [str_size, fx_len]
  rw [← hbz] at hbl
  have HT := Lib.hid (fun W => Two_is ((str (bodyL r)).size : Int) (str (fx 2 (bodyL r).length)) 0 W (by omega) (by rw [hbz]; exact hT1) (by rw [hbz]; exact hT2))
  have HF := Lib.hid (fun W => Four_is (N : Int) _ _ W (by omega) hF1 hF2)
  have HL := Lib.hid (fun W (hb : Below w.heap.size w W) => sealOf_is (str (fx 2 (bodyL r).length)) (str (bodyL r)) N W (by omega) (by omega) (ht.below hb) (by rw [hsd, hbd]; exact hN))
  have hbl2 : (str (bodyL r)).size ≤ 3000 := by omega
  clear hbl
  have R0 := Lib.hid (RBox.new w 28 (rarr r.o r.t (str r.k) (str r.b) r.q r.g))
  unfold ragg at HC HPB ⊢
  obtain ⟨cs, hcs⟩ : ∃ cs, cs = rarr r.o r.t (str r.k) (str r.b) r.q r.g := ⟨_, rfl⟩
  have HC6 : Hid (cs.size = 6) := by show _ = _; rw [hcs]; rfl
  rw [← hcs] at HC HPB R0 ⊢
  clear hcs h hE hT1 hT2 hF1 hF2 hN hsd hbd ht hbz hS
  generalize str (bodyL r) = B at HPB HT HL hS2 hbl2
  generalize str (fx 2 (bodyL r).length) = H at HT HL hS2 hz1
  generalize str (fx 4 N) = F at HF hS2 hz2
  subst hS2
  obtain ⟨W0, hW⟩ : ∃ W0, w.alloc (.cells cs 28) = W0 := ⟨_, rfl⟩
  rw [hW] at R0
  have HW := Lib.hid hW
  clear hW
  go_enter Tryd.func10, Tryd.ntmps10
  go_upto_region 1 with fail
  rw [HW.out]
  clear HW
  obtain ⟨p, hp⟩ : ∃ p, w.heap.size = p := ⟨_, rfl⟩
  rw [hp] at R0
  have hld := R0.out.load HC6.out
  rw [hp]
  clear hp
  go_wp2_with (refine wpList_load_any (by rfl) 28 (.tmp 1) rfl p 0 rfl _ hld ?_; simp only [Act.put])
  refine (HC.out _).mono ?_
  rintro e w1 ⟨rfl, hb1⟩
  have R1 := Lib.hid (R0.out.below hb1)
  have hld := R1.out.load HC6.out
  clear R0 hb1 HC
  go_wp2_with (refine wpList_load_any (by rfl) 28 (.tmp 1) rfl p 0 rfl _ hld ?_; simp only [Act.put])
  refine (HPB.out _).mono ?_
  rintro e w2 ⟨rfl, hb2⟩
  have R2 := Lib.hid (R1.out.below hb2)
  clear R1 hb2 HPB hld
  go_wp2_with fail
  refine (HT.out _).mono ?_
  rintro e w3 ⟨rfl, hb3⟩
  have R3 := Lib.hid (R2.out.below hb3)
  clear R2 hb3 HT
  go_wp2_with fail
  refine (HL.out _ R3.out.out.2).mono ?_
  rintro e w4 ⟨rfl, hb4⟩
  have R4 := Lib.hid (R3.out.below hb4)
  clear R3 hb4 HL
  go_wp2_with fail
  refine (HF.out _).mono ?_
  rintro e w5 ⟨rfl, hb5⟩
  have R5 := Lib.hid (R4.out.below hb5)
  clear R4 hb5 HF
  go_wp2_with fail
  go_ret2
  exact ⟨rfl, R5.out.out.2⟩
set_option maxRecDepth 100000 in
set_option maxHeartbeats 4000000 in
theorem Bytes_bad (r : Rc) (w : World) (h : mayB r = false) :
    Calls Tryd.prog 10 #[ragg r] w fun e w' => e = .returned (.tuple #[.string ⟨#[]⟩, .int .i64 1]) ∧ Below w.heap.size w w' := by
  have hE : mayE r = 1 := by unfold mayE; rw [h]; rfl
  have HC := Lib.hid (fun W => Check_is r 1 W hE)
  have R0 := Lib.hid (RBox.new w 28 (rarr r.o r.t (str r.k) (str r.b) r.q r.g))
  unfold ragg at HC ⊢
  obtain ⟨cs, hcs⟩ : ∃ cs, cs = rarr r.o r.t (str r.k) (str r.b) r.q r.g := ⟨_, rfl⟩
  have HC6 : Hid (cs.size = 6) := by show _ = _; rw [hcs]; rfl
  rw [← hcs] at HC R0 ⊢
  clear hcs h hE
  obtain ⟨W0, hW⟩ : ∃ W0, w.alloc (.cells cs 28) = W0 := ⟨_, rfl⟩
  rw [hW] at R0
  have HW := Lib.hid hW
  clear hW
  go_enter Tryd.func10, Tryd.ntmps10
  go_upto_region 1 with fail
  rw [HW.out]
  clear HW
  obtain ⟨p, hp⟩ : ∃ p, w.heap.size = p := ⟨_, rfl⟩
  rw [hp] at R0
  have hld := R0.out.load HC6.out
  rw [hp]
  clear hp
  go_wp2_with (refine wpList_load_any (by rfl) 28 (.tmp 1) rfl p 0 rfl _ hld ?_; simp only [Act.put])
  refine (HC.out _).mono ?_
  rintro e w1 ⟨rfl, hb1⟩
  have R1 := Lib.hid (R0.out.below hb1)
  clear R0 hb1 HC
  go_wp2_with fail
  go_ret2
  exact ⟨rfl, R1.out.out.2⟩
/-- rec.Bytes. -/
theorem Bytes_is (r : Rc) (S : ByteArray) (E : Int) (w : World) (ht : Tab w) (hS : bytesE r = S) (hE : mayE r = E) :
    Calls Tryd.prog 10 #[ragg r] w fun e w' => e = .returned (.tuple #[.string S, .int .i64 E]) ∧ Below w.heap.size w w' := by
  subst hS hE
  unfold bytesE mayE
  cases h : mayB r with
  | true => exact Bytes_good r _ w h ht rfl
  | false => exact Bytes_bad r w h
end Go.Proofs.YtimoncjdfmfojaaDoor
