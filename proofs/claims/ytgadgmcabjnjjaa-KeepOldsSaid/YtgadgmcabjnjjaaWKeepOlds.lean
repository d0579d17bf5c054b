/- For every list of asks: whether segments stand in a row, rules may be, how many of the first ones go, and which are left, is the document's, or refused. No condition. -/
import Derived.Deep.CutRange
import Derived.SizedLaws
import Derived.Test.YtgadgmcabjnjjaaW11
/- KeepOlds, by its walk: whether segments stand in a row, rules may be, how many of the first ones go, and which are left, is the document's, or refused. -/
namespace Go.Proofs.Ytgadgmcabjnjjaa.Kpd
open Go.RowKit Go.Lib Rcd

theorem ask_ways (l : List Sp) (r : Ru) (_ : Int) : ∃ R1 R2 E1 E2, rowB l = R1 ∧ rowE l = E1 ∧ ruB r = R2 ∧ ruE r = E2 ∧ ((R1 = true ∧ E1 = 0) ∨ (R1 = false ∧ E1 = 1)) ∧ ((R2 = true ∧ E2 = 0) ∨ (R2 = false ∧ E2 = 1)) := by
  refine ⟨_, _, _, _, rfl, rfl, rfl, rfl, ?_, ?_⟩
  · unfold rowE
    cases rowB l with
    | true => exact .inl ⟨rfl, rfl⟩
    | false => exact .inr ⟨rfl, rfl⟩
  · unfold ruE
    cases ruB r with
    | true => exact .inl ⟨rfl, rfl⟩
    | false => exact .inr ⟨rfl, rfl⟩
theorem recs_mem {l : List Sp} {s : Sp} (h : s ∈ l) : s.rs.length ≤ (recsOf l).length := by
  induction l with
  | nil => cases h
  | cons x l ih =>
    have e : recsOf (x :: l) = x.rs ++ recsOf l := by unfold recsOf; rw [List.flatMap_cons]
    rw [e, List.length_append]
    rcases List.mem_cons.1 h with rfl | h
    · omega
    · have := ih h
      omega
/-- How many go, what is left, and the error, as one. -/
def AllIs (l : List Sp) (r : Ru) (now : Int) (m : Nat) (K : List Sp) (E : Int) : Prop := (askB l r now = false ∧ m = 0 ∧ K = [] ∧ E = 1) ∨ (askB l r now = true ∧ OldIs r now l m ∧ K = l.drop m ∧ E = 0)
theorem all_ex (l : List Sp) (r : Ru) (now : Int) : ∃ m K E, AllIs l r now m K E := by
  cases h : askB l r now with
  | false => exact ⟨_, _, _, .inl ⟨h, rfl, rfl, rfl⟩⟩
  | true =>
    obtain ⟨m, hm⟩ := old_ex r now l
    exact ⟨_, _, _, .inr ⟨h, hm, rfl, rfl⟩⟩
theorem AllIs.old {l : List Sp} {r : Ru} {now : Int} {m : Nat} {K : List Sp} {E : Int} (h : AllIs l r now m K E) : OldT l r now m E := by
  rcases h with ⟨h, rfl, _, rfl⟩ | ⟨h, hm, _, rfl⟩
  · exact .no h
  · exact .yes m h hm
theorem AllIs.left {l : List Sp} {r : Ru} {now : Int} {m : Nat} {K : List Sp} {E : Int} (h : AllIs l r now m K E) : LeftIs l r now K E := by
  rcases h with ⟨h, _, rfl, rfl⟩ | ⟨h, hm, rfl, rfl⟩
  · exact .inl ⟨rfl, rfl, h⟩
  · exact .inr ⟨rfl, h, m, hm, rfl⟩

set_option maxRecDepth 100000 in
set_option maxHeartbeats 16000000 in
theorem KeepOlds_any (A : Option Addr) (n c : Nat) (w : World) (hA : Asks w A n) : Calls Try.prog 3 #[.slice A n c] w fun e w' => e = .returned (.bool true) ∧ Below w.heap.size w w' := by
  have HAS := Lib.hid hA
  clear hA
  go_enter Try.func3, Try.ntmps3
  go_wp2_with fail
  go_loopw [3] (fun i wr => ∃ k : Nat, k ≤ n ∧ k ≤ 8 ∧ i = .int .i64 (k : Int) ∧ Below w.heap.size w wr) (fun i _ => 8 - (RowKit.intOf i).toNat)
  case atStart => exact ⟨0, Nat.zero_le _, Nat.zero_le _, rfl, Below.refl _ _⟩
  case round =>
    obtain ⟨k, hkn, hk8, rfl, hbl⟩ := hrel
    have HB := Lib.hid hbl
    clear hbl
    by_cases hlt : k < n
    · have e1 : (k : Int) < (n : Int) := by omega
      by_cases hlt8 : k < 8
      · have e2 : (k : Int) < 8 := by omega
        obtain ⟨b, off, rfl, hall⟩ : ∃ b off, A = some ⟨b, off, none⟩ ∧ ∀ i, i < n → ∃ l r now A' c', AskAt w w.heap.size b (off + i * 7) l r now A' c' := by
          rcases HAS.out with h0 | h
          · omega
          · exact h
        obtain ⟨l, r, now, A', c', hask⟩ := hall k hlt
        have hask2 := hask.below HB.out
        have hld := load_ask_at hask2
        have HL0 := Lib.hid hask.hA
        have hcap' := hask.cap
        have hlen' := hask.len
        have HLM := Lib.hid hask.lim
        clear hall hask hask2
        obtain ⟨N, hN⟩ : ∃ N, l.length = N := ⟨_, rfl⟩
        rw [hN] at hld hcap' hlen'
        obtain ⟨m, K, E, hAll⟩ := all_ex l r now
        obtain ⟨R1, R2, E1, E2, hR1, hE1, hR2, hE2, hw1, hw2⟩ := ask_ways l r now
        obtain ⟨R3, hR3⟩ : ∃ R3, askB l r now = R3 := ⟨_, rfl⟩
        obtain ⟨X, hX⟩ : ∃ X, heavyB l = X := ⟨_, rfl⟩
        obtain ⟨L, hL⟩ : ∃ L, K.length = L := ⟨_, rfl⟩
        have HRU := Lib.hid (fun W => Rules_is r E2 W hE2)
        have HRR := Lib.hid (fun W => RRules_is r R2 W hR2)
        have HHV := Lib.hid (fun W (hb : Below w.heap.size w W) => Heavy_is l r now N A' c' w.heap.size X W hN (by omega) hb.size (HL0.out.below hb) hX)
        have HOLD := Lib.hid (fun W A2 c2 B (hc : N ≤ c2) (hB : B ≤ W.heap.size) (h : SegsAt W B A2 l) => Old_is l r now N A2 c2 B m E W hN (by omega) hc hB h hAll.old)
        have HKEEP := Lib.hid (fun W A2 c2 B (hc : N ≤ c2) (hB : B ≤ W.heap.size) (h : SegsAt W B A2 l) => Keep_is l K r now N L A2 c2 B E W hN (by omega) hc hB h hL hAll.left)
        have HMAY := Lib.hid (fun W (hb : Below w.heap.size w W) (hbig : (recsOf l).length ≤ 1000000) => May_is l r now N A' c' w.heap.size R3 W hN (by omega) hcap' hbig hb.size (HL0.out.below hb) hR3)
        have HROLD := Lib.hid (fun W (hb : Below w.heap.size w W) (h3 : askB l r now = true) => ROld_is l r now N A' c' w.heap.size m W hN hcap' hb.size (HL0.out.below hb) (ask_parts h3).1 (ask_parts h3).2.1 (by
          rcases hAll with ⟨h, _⟩ | ⟨_, h, _⟩
          · rw [h3] at h; cases h
          · exact h))
        unfold aarr at hld HHV HMAY
        unfold ruagg ruarr at HRU HRR HOLD HKEEP HROLD
        have HALL := Lib.hid hAll
        have HR3 := Lib.hid hR3
        have HE1 := Lib.hid hE1
        have HR1 := Lib.hid hR1
        have HX := Lib.hid hX
        have HN := Lib.hid hN
        have HLL := Lib.hid hL
        have HW1 := Lib.hid hw1
        have HW2 := Lib.hid hw2
        have HCAP := Lib.hid (And.intro hcap' hlen')
        clear hAll hR1 hE1 hR2 hE2 hw1 hw2 hR3 hX hN hL hcap' hlen'
        generalize hrs1 : r.sb = sb at *
        generalize hrs2 : r.by_ = by_ at *
        generalize hrs3 : r.ag = ag at *
        generalize hrs4 : r.co = co at *
        generalize hrs5 : r.gr = gr at *
        clear hrs1 hrs2 hrs3 hrs4 hrs5
        obtain ⟨p, W4, hg9, hW4, hbn, hbx, hbw⟩ := any_box HB.out 27 azero #[.slice A' N c', .int .i64 sb, .int .i64 by_, .int .i64 ag, .bool co, .int .i64 gr, .int .i64 now]
        have HBN := Lib.hid hbn
        have R5 := Lib.hid hbx
        have HPW : Hid (w.heap.size ≤ p) := by show _ ≤ _; rw [← hg9]; exact HB.out.size
        unfold azero at hW4
        have HW4 := Lib.hid hW4
        clear hbn hbx hbw hW4 HB
        go_upto_region 5 with (first | (refine wpList_load_any (by rfl) 27 (.tmp 25) rfl b (off + k * 7) rfl _ hld ?_; simp only [Act.put]) | (rw [HW4.out]; refine wpList_store_whole rfl 27 (.tmp 4) (.tmp 26) rfl p _ rfl rfl azero HBN.out info_ask rfl (by simp [Value.oneCell']) ?_; simp only [Act.put]))
        clear HW4 HBN hg9 hld
        generalize World.setRow _ _ _ = w5 at R5 ⊢
        have hld := load_ask R5.out.out.1 rfl
        go_wp2_with (refine wpList_load_any (by rfl) 27 (.tmp 4) rfl p 0 rfl _ hld ?_; simp only [Act.put])
        refine (HHV.out _ R5.out.out.2).mono ?_
        rintro e w6 ⟨rfl, hb6⟩
        have R6 := Lib.hid (R5.out.below hb6)
        clear R5 hb6 hld HHV
        cases X with
        | true =>
          go_wp2_with fail
          go_ret
          exact ⟨rfl, R6.out.out.2⟩
        | false =>
          obtain ⟨hn250, hn8⟩ := heavy_no HX.out HLM.out
          rw [HN.out] at hn250
          have HBIG := Lib.hid (show (recsOf l).length ≤ 1000000 by omega)
          clear hn8 HX HLM
          have HCS := Lib.hid (RCopySegs_is l N A' c' w.heap.size w6 HN.out (by omega) R6.out.out.2.size (HL0.out.below R6.out.out.2))
          have d0 : w6.cell? ⟨p, 0, none⟩ = some (.slice A' N c') := R6.out.cell 0
          go_wp2_with fail
          refine HCS.out.mono ?_
          rintro e w7 ⟨Ai, ci, xi, rfl, hoi, hb7⟩
          have HI7 := Lib.hid (SegsAt.of_own hoi)
          have hri := hoi.row
          rw [HN.out] at hri
          have HCI := Lib.hid (row_cap hri)
          have R7 := Lib.hid (R6.out.below hb7)
          clear hb7 hoi hri R6 HCS d0
          have hlr := RBox.loadRu R7.out
          have d6 : w7.cell? ⟨p, 6, none⟩ = some (.int .i64 now) := R7.out.cell 6
          go_wp2_with (refine wpList_load_any (by rfl) 25 (.tmp 34) rfl p 1 rfl _ hlr ?_; simp only [Act.put])
          refine (HOLD.out w7 Ai ci w7.heap.size HCI.out (Nat.le_refl _) HI7.out).mono ?_
          rintro e w8 ⟨rfl, hb8⟩
          have HI8 := Lib.hid (HI7.out.on hb8)
          have R8 := Lib.hid (R7.out.below hb8)
          clear hb8 HI7 R7 hlr d6 HOLD
          have hlr := RBox.loadRu R8.out
          have d6 : w8.cell? ⟨p, 6, none⟩ = some (.int .i64 now) := R8.out.cell 6
          go_wp2_with (refine wpList_load_any (by rfl) 25 (.tmp 43) rfl p 1 rfl _ hlr ?_; simp only [Act.put])
          refine (HKEEP.out w8 Ai ci w8.heap.size HCI.out (Nat.le_refl _) HI8.out).mono ?_
          rintro e w9 ⟨Ak, ck, xk, rfl, hok, hb9⟩
          have S9 := Lib.hid (St.mk ⟨hb9, hok⟩)
          have hp8 := R8.out.out.1.lt
          have q0 : w8.cell? ⟨p, 0, none⟩ = some (.slice A' N c') := R8.out.cell 0
          have q1 : w8.cell? ⟨p, 1, none⟩ = some (.int .i64 sb) := R8.out.cell 1
          have q2 : w8.cell? ⟨p, 2, none⟩ = some (.int .i64 by_) := R8.out.cell 2
          have q3 : w8.cell? ⟨p, 3, none⟩ = some (.int .i64 ag) := R8.out.cell 3
          have q4 : w8.cell? ⟨p, 4, none⟩ = some (.bool co) := R8.out.cell 4
          have q5 : w8.cell? ⟨p, 5, none⟩ = some (.int .i64 gr) := R8.out.cell 5
          have HQ := Lib.hid (And.intro q0 (And.intro q1 (And.intro q2 (And.intro q3 (And.intro q4 (And.intro q5 d6))))))
          have HRX := Lib.hid (fun W (hb : Below w8.heap.size w8 W) => R8.out.out.2.trans (hb.mono R8.out.out.2.size))
          have HPP := Lib.hid hp8
          have R9 := Lib.hid (R8.out.below hb9)
          clear hok hb9 q0 q1 q2 q3 q4 q5 d6 hlr HKEEP hp8
          have hld := load_ask R9.out.out.1 rfl
          go_wp2_with (refine wpList_load_any (by rfl) 27 (.tmp 4) rfl p 0 rfl _ hld ?_; simp only [Act.put])
          refine (HMAY.out w9 R9.out.out.2 HBIG.out).mono ?_
          rintro e w10 ⟨rfl, hb10⟩
          have S10 := Lib.hid (S9.out.below hb10)
          have R10 := Lib.hid (R9.out.below hb10)
          clear S9 R9 hb10 hld HMAY
          go_upto_if 51 with fail
          go_cut [10, 11, 12] from 52 to 62 (fun s10 s11 s12 wx => ∃ AL cL, s10 = .int .i64 E ∧ s11 = .int .i64 (m : Int) ∧ s12 = .slice AL L cL ∧ SegsAt w8 w8.heap.size AL K ∧ St w8 (.slice Ak L ck) K xk wx)
          case first =>
            cases R3 with
            | false =>
              obtain ⟨_, rfl, rfl, rfl⟩ : askB l r now = false ∧ m = 0 ∧ K = [] ∧ E = 1 := by
                rcases HALL.out with h | ⟨h, _⟩
                · exact h
                · rw [HR3.out] at h; cases h
              obtain rfl : L = 0 := by rw [← HLL.out]; rfl
              clear HROLD
              go_wp2_with fail
              go_meet
              exact ⟨none, 0, rfl, rfl, rfl, .inl rfl, S10.out⟩
            | true =>
              obtain ⟨_, hOI, hKm, rfl⟩ : askB l r now = true ∧ OldIs r now l m ∧ K = l.drop m ∧ E = 0 := by
                rcases HALL.out with ⟨h, _⟩ | h
                · rw [HR3.out] at h; cases h
                · exact h
              have hml := hOI.le
              rw [HN.out] at hml
              have hrow := (row_iff.1 (ask_parts HR3.out).1).1
              rw [HN.out] at hrow
              obtain ⟨b1, o1, hA1, _, _⟩ := HL0.out.some_ (by rw [HN.out]; omega)
              obtain ⟨A2, hrest, hdrop⟩ := segs_rest A' N c' m (.inr ⟨_, _, hA1⟩) (by omega) HCAP.out.1
              have hLm : N - m = L := by rw [← HLL.out, hKm, List.length_drop, HN.out]
              rw [hLm] at hrest
              have HAT := Lib.hid (show SegsAt w8 w8.heap.size A2 K by rw [hKm]; exact hdrop w8 _ l HN.out ((HL0.out.below R8.out.out.2).mono R8.out.out.2.size))
              have hmN : (m : Int) ≤ (N : Int) := by omega
              have HRO := Lib.hid (HROLD.out w10 R10.out.out.2 HR3.out)
              have hlr := RBox.loadRu R10.out
              have d0 : w10.cell? ⟨p, 0, none⟩ = some (.slice A' N c') := R10.out.cell 0
              have d6 : w10.cell? ⟨p, 6, none⟩ = some (.int .i64 now) := R10.out.cell 6
              clear HROLD hdrop hrow hOI hKm hml hA1 hLm
              go_wp2_with (refine wpList_load_any (by rfl) 25 (.tmp 54) rfl p 1 rfl _ hlr ?_; simp only [Act.put])
              refine HRO.out.mono ?_
              rintro e w11 ⟨rfl, hb11⟩
              have S11 := Lib.hid (S10.out.below hb11)
              have R11 := Lib.hid (R10.out.below hb11)
              clear S10 R10 hb11 HRO hlr d0 d6
              have d0 : w11.cell? ⟨p, 0, none⟩ = some (.slice A' N c') := R11.out.cell 0
              go_wp2_with fail
              go_meet
              exact ⟨A2, c' - m, rfl, rfl, rfl, HAT.out, S11.out⟩
          case rest =>
            obtain ⟨AL, cL, rfl, rfl, rfl, hLeft, hst⟩ := hcut
            have HLF := Lib.hid hLeft
            have hKL : L ≤ 250 ∧ ∀ s ∈ K, s.rs.length ≤ 1000000 := by
              have hsub : K.length ≤ l.length ∧ ∀ s ∈ K, s ∈ l := by
                rcases HALL.out with ⟨_, _, rfl, _⟩ | ⟨_, _, rfl, _⟩
                · exact ⟨Nat.zero_le _, fun s hs => by cases hs⟩
                · exact ⟨by rw [List.length_drop]; omega, fun s hs => List.drop_subset _ _ hs⟩
              rw [HLL.out, HN.out] at hsub
              exact ⟨by omega, fun s hs => Nat.le_trans (recs_mem (hsub.2 s hs)) HBIG.out⟩
            have HKL := Lib.hid hKL
            clear hLeft hKL S10 R10 HROLD HALL HR3
            have HC1 := Lib.hid (fun W (h : St w8 (.slice Ak L ck) K xk W) => Row_is l N Ai ci w8.heap.size E1 W HN.out (by omega) h.bel.size (HI8.out.below h.bel) HE1.out)
            have HC2 := Lib.hid (fun W (h : St w8 (.slice Ak L ck) K xk W) => RRow_is l N A' c' w.heap.size R1 W HN.out (by omega) HCAP.out.1 HBIG.out (HRX.out W h.bel).size (HL0.out.below (HRX.out W h.bel)) HR1.out)
            have HC5 := Lib.hid (fun W (h : St w8 (.slice Ak L ck) K xk W) => EqSegs_same K L Ak AL ck cL W.heap.size w8.heap.size W HLL.out (by have := HKL.out.1; omega) (Nat.le_refl _) h.bel.size (.of_own h.out.2) (HLF.out.below h.bel))
            clear HE1 HR1 HLF
            have st0 := hst
            clear hst
            rcases HW1.out with ⟨rfl, rfl⟩ | ⟨rfl, rfl⟩
            all_goals rcases HW2.out with ⟨rfl, rfl⟩ | ⟨rfl, rfl⟩
            all_goals clear HW1 HW2
            all_goals
              haveI : Nonempty (In (St w8 (.slice Ak L ck) K xk)) := ⟨⟨_, st0⟩⟩
              have k0 := fun u : In (St w8 (.slice Ak L ck) K xk) => (u.h.bel.cell (p := ⟨p, 0, none⟩) HPP.out).trans HQ.out.1
              have kl := fun u : In (St w8 (.slice Ak L ck) K xk) => load_ru_at (o := 1) ((u.h.bel.cell (p := ⟨p, 1, none⟩) HPP.out).trans HQ.out.2.1) ((u.h.bel.cell (p := ⟨p, 2, none⟩) HPP.out).trans HQ.out.2.2.1) ((u.h.bel.cell (p := ⟨p, 3, none⟩) HPP.out).trans HQ.out.2.2.2.1) ((u.h.bel.cell (p := ⟨p, 4, none⟩) HPP.out).trans HQ.out.2.2.2.2.1) ((u.h.bel.cell (p := ⟨p, 5, none⟩) HPP.out).trans HQ.out.2.2.2.2.2.1)
              go_upto_region 15 with fail
              refine region_in (S := St w8 (.slice Ak L ck) K xk) (by kernel_rfl) (by kernel_rfl) (st0.drewN 1) ?_
              iterate 10 (go_big_quiet_step (first | (go_at_call 14; exact in_call ((HC1.out _ (In.h _)).mono fun _ _ h => ⟨h.1, St.below (In.h _) h.2⟩)) | (go_at_call 13; exact in_call ((num_is _ _).mono fun _ _ h => ⟨h.1, h.2 ▸ In.h _⟩)) | (go_at_call 15; exact in_call ((HC2.out _ (In.h _)).mono fun _ _ h => ⟨h.1, St.below (In.h _) h.2⟩))))
              go_big_quiet_want
              refine quiet_load_in 25 (.tmp 72) rfl p 1 rfl _ kl ?_
              go_simp
              go_big_quiet_on
              iterate 4 (go_big_quiet_step (first | (go_at_call 16; exact in_call ((HRU.out _).mono fun _ _ h => ⟨h.1, St.below (In.h _) h.2⟩)) | (go_at_call 13; exact in_call ((num_is _ _).mono fun _ _ h => ⟨h.1, h.2 ▸ In.h _⟩))))
              go_big_quiet_want
              refine quiet_load_in 25 (.tmp 77) rfl p 1 rfl _ kl ?_
              go_simp
              go_big_quiet_on
              repeat (go_big_quiet_step (first | (go_at_call 17; exact in_call ((HRR.out _).mono fun _ _ h => ⟨h.1, St.below (In.h _) h.2⟩)) | (go_at_call 13; exact in_call ((num_is _ _).mono fun _ _ h => ⟨h.1, h.2 ▸ In.h _⟩)) | (go_at_call 18; exact in_call ((HC5.out _ (In.h _)).mono fun _ _ h => ⟨h.1, St.below (In.h _) h.2⟩))))
              refine wpQuiet_nil ?_
              rintro w12 ⟨⟨x12, st12⟩, rfl⟩
              have S12 := Lib.hid st12
              clear this st0 st12 k0 kl HC1 HC2 HC5 HRU HRR
              (try simp only [Bool.not_true, Bool.not_false])
              have HSP := Lib.hid (SpoilS_is K xk w8.heap.size L ck Ak w12 S12.out.bel.size HLL.out (by have := HKL.out.1; omega) HKL.out.2 S12.out.out.2)
              go_wp2_with fail
              refine HSP.out.mono ?_
              rintro e w13 ⟨⟨v0, rfl⟩, hb13⟩
              have B13 := Lib.hid (S12.out.bel.trans hb13)
              clear hb13 S12 HSP
              have HEQ := Lib.hid (EqSegs_same l N Ai A' ci c' w8.heap.size w.heap.size w13 HN.out (by omega) B13.out.size (HRX.out w13 B13.out).size (HI8.out.below B13.out) (HL0.out.below (HRX.out w13 B13.out)))
              have d0 := (B13.out.cell (p := ⟨p, 0, none⟩) HPP.out).trans HQ.out.1
              go_wp2_with fail
              refine HEQ.out.mono ?_
              rintro e w14 ⟨rfl, hb14⟩
              have B14 := Lib.hid (HRX.out w14 (bel_step B13.out hb14))
              clear hb14 B13 HEQ d0
              go_wp2_with fail
              go_roundw
              case rel => exact ⟨k + 1, hlt, hlt8, by go_num, B14.out⟩
              case measure => simp [RowKit.intOf]; omega
      · have e3 : ¬ (k : Int) < 8 := by omega
        have HWK := Lib.hid (wakes_any wr)
        go_wp2_with fail
        refine HWK.out.mono ?_
        rintro e w1 ⟨rfl, hb1⟩
        have B1 := Lib.hid (bel_step HB.out hb1)
        clear hb1 HB HWK
        go_wp2_with fail
        go_ret
        exact ⟨rfl, B1.out⟩
    · have e3 : ¬ (k : Int) < (n : Int) := by omega
      have HWK := Lib.hid (wakes_any wr)
      go_wp2_with fail
      refine HWK.out.mono ?_
      rintro e w1 ⟨rfl, hb1⟩
      have B1 := Lib.hid (bel_step HB.out hb1)
      clear hb1 HB HWK
      go_wp2_with fail
      go_ret
      exact ⟨rfl, B1.out⟩
end Go.Proofs.Ytgadgmcabjnjjaa.Kpd
/- For every list of asks: whether segments stand in a row, rules may be, how many of the first ones go, and which are left, is the document's, or refused. No condition. -/
namespace Go.Proofs.Ytgadgmcabjnjjaa.keepOlds
open Go.ChangeShapes Go.WideShapes Go.ChangeAt Go.RowKit Kpd

set_option maxRecDepth 100000 in
theorem lifted (os : Os) (started : os.Started) (H : Type) (enc : TypeId × Value → H) :
    ReturnsInHanded {} Try.checked os 3 .any (Rows.keepOldsSpec.pre6 enc Try.prog Try.f3 Rows.keepOldsRow.domain false) (Rows.keepOldsSpec.post enc Try.prog Try.f3 false true false false) := by
  refine returnsInHanded_of_change_sized (C := Try.checked) ownKnob_none started (by kernel_rfl) Try.func3
    (ChangeSpec.witness6 (enc := enc) (C := Try.checked) false ⟨#[], #[.slice none 0 0], []⟩ 8 (by kernel_rfl) (by kernel_rfl) (by kernel_rfl) (by kernel_rfl)) ?_
  intro W base args ds gs before hval0 hW _ hsz0 _
  have hval : ∀ (j : Nat) t v, Try.f3.params[j]? = some t → args[j]? = some v → Value.okWide Try.prog W .any base t v := hval0
  have hW' := hW
  obtain ⟨p, q, hA0, hV, rfl, _, _⟩ := hW
  have hA : DataW.TrodAll enc Try.prog W 0 (fun _ => true) true Try.f3.params.toList args.toList ds p := hA0
  rw [Try.params3] at hA hval
  obtain ⟨v0, d0, rfl, rfl, h0⟩ := trodAll_one hA
  obtain ⟨rfl, rfl⟩ := trodVars_none hV
  obtain ⟨a0, n0, c0, rfl⟩ := okWide_slice Try.underlying22 (hval 0 22 v0 rfl rfl)
  have lt0 : ∀ x ∈ p, x.block < W.heap.size := by obtain ⟨m, hm⟩ := h0; exact DataW.trod_lt m _ _ _ hm
  have near : Near 22 d0 := fun n hn => by
    have := List.all_eq_true.1 hsz0 n (DataW.weights_mem_each (j := 0) (t := 22) (d := d0) (by rw [Try.params3]; rfl) rfl n hn)
    simpa using this
  clear hA0 hval0
  refine (KeepOlds_any a0 n0 c0 W (asks_near near h0)).mono fun e W' ⟨he, bel⟩ => ?_
  subst he
  exact ⟨_, rfl, _, _, _, [], _, [], hW', trodAll_mk1 (shut_bool Try.underlying4 _), trodAll_mk1 (Below.trod laidOut_true (by kernel_rfl) (of_decide_eq_true (by kernel_rfl)) h0 bel lt0), rfl, bel.frame _, fun h => by cases h⟩

theorem over : Rows.keepOldsRow.holds Try.pinned (OpenSpec.ofChange Rows.keepOldsSpec) :=
  OpenClaim.holds_of_wide 3 Try.f3 rfl rfl rfl rfl rfl rfl rfl ⟨rfl, rfl, rfl, rfl, rfl⟩ rfl rfl rfl rfl rfl (by kernel_rfl) Try.func3 (by kernel_rfl)
    (of_decide_eq_true (by kernel_rfl)) (by unfold Func.isWrapper; rw [if_neg (of_decide_eq_false (by kernel_rfl))]; exact ⟨rfl, rfl⟩)
    (fun os started H enc _ => lifted os started H enc)

theorem proved : Rows.KeepOldsSaid := over
#print axioms proved
end Go.Proofs.Ytgadgmcabjnjjaa.keepOlds
