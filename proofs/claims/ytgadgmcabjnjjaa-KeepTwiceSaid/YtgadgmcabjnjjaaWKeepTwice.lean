/- For every list of asks: the open segment stays; done again nothing more goes; later no fewer go; without bounds none. No condition. -/
import Derived.SizedLaws
import Derived.Test.YtgadgmcabjnjjaaW11
/- KeepTwice, by its walk: the open segment stays; done again nothing more goes; later no fewer go; without bounds none. -/
namespace Go.Proofs.Ytgadgmcabjnjjaa.Kpd
open Go.RowKit Go.Lib Rcd

/-- What follows of segments of which so many go. -/
theorem twice_told {l : List Sp} {sb by_ ag : Int} {co : Bool} {gr now : Int} {m : Nat} (h : askB l ⟨sb, by_, ag, co, gr⟩ now = true) (hm : OldIs ⟨sb, by_, ag, co, gr⟩ now l m) (hn : now < 1099511626776) :
    m < l.length ∧ OldT (l.drop m) ⟨sb, by_, ag, co, gr⟩ now 0 0 ∧ OldT l ⟨sb, -1, -1, co, gr⟩ now 0 0 ∧ ∃ m2, m ≤ m2 ∧ OldT l ⟨sb, by_, ag, co, gr⟩ (now + 1000) m2 0 := by
  obtain ⟨a1, a2, a3⟩ := ask_parts h
  have hr := (row_iff.1 a1).1
  have hml := hm.le
  have hmn : m < l.length := by omega
  have hnow := of_decide_eq_true a3
  have hru := ru_yes a2
  dsimp only at hru
  refine ⟨hmn, .yes 0 ?_ (old_again hm), .yes 0 ?_ (old_free rfl rfl), ?_⟩
  · unfold askB
    rw [row_drop a1 hmn, a2, a3]; rfl
  · unfold askB
    rw [a1, a3, show ruB ⟨sb, -1, -1, co, gr⟩ = true from decide_eq_true (by dsimp only; omega)]; rfl
  · obtain ⟨m2, h2⟩ := old_ex ⟨sb, by_, ag, co, gr⟩ (now + 1000) l
    refine ⟨m2, old_later hm h2 (by omega), .yes m2 ?_ h2⟩
    unfold askB
    rw [a1, a2, decide_eq_true (show 0 ≤ now + 1000 ∧ now + 1000 ≤ 1099511627776 by omega)]; rfl
/-- The last of the segments that are left: where it stands. -/
theorem last_own {w : World} {B L c q : Nat} {A : Option Addr} {K : List Sp} {xs : List Sx} (hL : K.length = L) (hq : q + 1 = L) (h : OwnS w B (.slice A L c) K xs) (hk : q < K.length) :
    ∃ g A1 c1, A = some ⟨g, 0, none⟩ ∧ ∀ W, OwnS W B (.slice A L c) K xs → W.cell? ⟨g, q * 2, none⟩ = some (.int .i64 K[q].b) ∧ W.cell? ⟨g, q * 2 + 1, none⟩ = some (.slice A1 K[q].rs.length c1) ∧ RecsAt W W.heap.size A1 K[q].rs := by
  subst hL
  have hxq : q < xs.length := by rw [h.len]; exact hk
  have hgx : ∃ g, A = some ⟨g, 0, none⟩ := by
    rcases h.row.2 with ⟨hv, h0⟩ | ⟨g, cap, cur, hv, _⟩
    · omega
    · injection hv with h1
      exact ⟨g, h1⟩
  obtain ⟨g, rfl⟩ := hgx
  refine ⟨g, xs[q].A, xs[q].c, rfl, fun W hW => ?_⟩
  have hs : xs[q].s = K[q] := by
    have h1 : (xs.map (·.s))[q]'(by rw [List.length_map]; exact hxq) = K[q] := by simp only [hW.map]
    rw [List.getElem_map] at h1
    exact h1
  have h0 := hW.row.cellAt (q * 2) (by omega)
  have h1 := hW.row.cellAt (q * 2 + 1) (by omega)
  rw [xflat_at xs q 1 hxq (by omega)] at h1
  rw [show q * 2 = q * 2 + 0 by omega, xflat_at xs q 0 hxq (by omega), Nat.add_zero] at h0
  have hw := (hW.own xs[q] (List.getElem_mem hxq)).1
  rw [← hs]
  exact ⟨h0, h1, .of_own hw⟩

set_option maxRecDepth 100000 in
set_option maxHeartbeats 16000000 in
theorem KeepTwice_any (A : Option Addr) (n c : Nat) (w : World) (hA : Asks w A n) : Calls Try.prog 4 #[.slice A n c] w fun e w' => e = .returned (.bool true) ∧ Below w.heap.size w w' := by
  have HAS := Lib.hid hA
  clear hA
  go_enter Try.func4, Try.ntmps4
  go_wp2_with fail
  go_loopw [3] (fun i wr => ∃ k : Nat, k ≤ n ∧ k ≤ 8 ∧ i = .int .i64 (k : Int) ∧ Below w.heap.size w wr) (fun i _ => 8 - (RowKit.intOf i).toNat)
  case atStart => exact ⟨0, Nat.zero_le _, Nat.zero_le _, rfl, Below.refl _ _⟩
  case round =>
    obtain ⟨k, hkn, hk8, rfl, hbl⟩ := hrel
    have HB := Lib.hid hbl
    clear hbl
    by_cases hlt : k < n
    · have e1 : (k : Int) < (n : Int) := by omega
      by_cases hlt8 : k < 8
      · have e2 : (k : Int) < 8 := by omega
        obtain ⟨b, off, rfl, hall⟩ : ∃ b off, A = some ⟨b, off, none⟩ ∧ ∀ i, i < n → ∃ l r now A' c', AskAt w w.heap.size b (off + i * 7) l r now A' c' := by
          rcases HAS.out with h0 | h
          · omega
          · exact h
        obtain ⟨l, r, now, A', c', hask⟩ := hall k hlt
        have hask2 := hask.below HB.out
        have hld := load_ask_at hask2
        have HL0 := Lib.hid hask.hA
        have hcap' := hask.cap
        have hlen' := hask.len
        have HLM := Lib.hid hask.lim
        clear hall hask hask2
        obtain ⟨N, hN⟩ : ∃ N, l.length = N := ⟨_, rfl⟩
        rw [hN] at hld hcap' hlen'
        obtain ⟨sb, by_, ag, co, gr⟩ := r
        obtain ⟨R3, hR3⟩ : ∃ R3, askB l ⟨sb, by_, ag, co, gr⟩ now = R3 := ⟨_, rfl⟩
        obtain ⟨X, hX⟩ : ∃ X, heavyB l = X := ⟨_, rfl⟩
        have HHV := Lib.hid (fun W (hb : Below w.heap.size w W) => Heavy_is l ⟨sb, by_, ag, co, gr⟩ now N A' c' w.heap.size X W hN (by omega) hb.size (HL0.out.below hb) hX)
        have HOLD := Lib.hid (fun (L0 : List Sp) (r0 : Ru) (now0 : Int) (N0 m0 : Nat) W A2 c2 B (hN0 : L0.length = N0) (hm0 : N0 ≤ 9223372036854775807) (hc : N0 ≤ c2) (hB : B ≤ W.heap.size) (h : SegsAt W B A2 L0) (hT : OldT L0 r0 now0 m0 0) => Old_is L0 r0 now0 N0 A2 c2 B m0 0 W hN0 hm0 hc hB h hT)
        have HMAY := Lib.hid (fun W (hb : Below w.heap.size w W) (hbig : (recsOf l).length ≤ 1000000) => May_is l ⟨sb, by_, ag, co, gr⟩ now N A' c' w.heap.size R3 W hN (by omega) hcap' hbig hb.size (HL0.out.below hb) hR3)
        unfold aarr at hld HHV HMAY
        unfold ruagg ruarr at HOLD
        dsimp only at hld HHV HMAY
        have HR3 := Lib.hid hR3
        have HX := Lib.hid hX
        have HN := Lib.hid hN
        have HCAP := Lib.hid (And.intro hcap' hlen')
        clear hR3 hX hN hcap' hlen'
        obtain ⟨p, W4, hg9, hW4, hbn, hbx, hbw⟩ := any_box HB.out 27 azero #[.slice A' N c', .int .i64 sb, .int .i64 by_, .int .i64 ag, .bool co, .int .i64 gr, .int .i64 now]
        have HBN := Lib.hid hbn
        have R5 := Lib.hid hbx
        unfold azero at hW4
        have HW4 := Lib.hid hW4
        clear hbn hbx hbw hW4 HB
        go_upto_region 5 with (first | (refine wpList_load_any (by rfl) 27 (.tmp 26) rfl b (off + k * 7) rfl _ hld ?_; simp only [Act.put]) | (rw [HW4.out]; refine wpList_store_whole rfl 27 (.tmp 4) (.tmp 27) rfl p _ rfl rfl azero HBN.out info_ask rfl (by simp [Value.oneCell']) ?_; simp only [Act.put]))
        clear HW4 HBN hg9 hld
        generalize World.setRow _ _ _ = w5 at R5 ⊢
        have hld := load_ask R5.out.out.1 rfl
        go_wp2_with (refine wpList_load_any (by rfl) 27 (.tmp 4) rfl p 0 rfl _ hld ?_; simp only [Act.put])
        refine (HHV.out _ R5.out.out.2).mono ?_
        rintro e w6 ⟨rfl, hb6⟩
        have R6 := Lib.hid (R5.out.below hb6)
        clear R5 hb6 hld HHV
        cases X with
        | true =>
          go_wp2_with fail
          go_roundw
          case rel => exact ⟨k + 1, hlt, hlt8, by go_num, R6.out.out.2⟩
          case measure => simp [RowKit.intOf]; omega
        | false =>
          obtain ⟨hn250, hn8⟩ := heavy_no HX.out HLM.out
          rw [HN.out] at hn250
          have HBIG := Lib.hid (show (recsOf l).length ≤ 1000000 by omega)
          clear hn8 HX HLM
          have hld := load_ask R6.out.out.1 rfl
          go_wp2_with (refine wpList_load_any (by rfl) 27 (.tmp 4) rfl p 0 rfl _ hld ?_; simp only [Act.put])
          refine (HMAY.out w6 R6.out.out.2 HBIG.out).mono ?_
          rintro e w7 ⟨rfl, hb7⟩
          have R7 := Lib.hid (R6.out.below hb7)
          clear R6 hb7 hld HMAY
          cases R3 with
          | false =>
            (try dsimp only)
            go_wp2_with fail
            go_roundw
            case rel => exact ⟨k + 1, hlt, hlt8, by go_num, R7.out.out.2⟩
            case measure => simp [RowKit.intOf]; omega
          | true =>
            (try dsimp only)
            have d6 : w7.cell? ⟨p, 6, none⟩ = some (.int .i64 now) := R7.out.cell 6
            by_cases hnow : 1099511626776 ≤ now
            · have f1 : decide (1099511626776 ≤ now) = true := decide_eq_true hnow
              go_wp2_with fail
              go_roundw
              case rel => exact ⟨k + 1, hlt, hlt8, by go_num, R7.out.out.2⟩
              case measure => simp [RowKit.intOf]; omega
            · have f1 : decide (1099511626776 ≤ now) = false := decide_eq_false hnow
              obtain ⟨m, hOI⟩ := old_ex ⟨sb, by_, ag, co, gr⟩ now l
              obtain ⟨hmN, hT1, hT3, m2, hm2, hT2⟩ := twice_told HR3.out hOI (by omega)
              obtain ⟨K, hK⟩ : ∃ K, l.drop m = K := ⟨_, rfl⟩
              obtain ⟨L, hL⟩ : ∃ L, K.length = L := ⟨_, rfl⟩
              rw [hK] at hT1
              rw [HN.out] at hmN
              have hLN : L = N - m := by rw [← hL, ← hK, List.length_drop, HN.out]
              obtain ⟨q, hq⟩ : ∃ q, q + 1 = L := ⟨L - 1, by omega⟩
              have hqK : q < K.length := by omega
              obtain ⟨N1, hN1⟩ : ∃ N1, m + q = N1 := ⟨_, rfl⟩
              have hqN : N1 < l.length := by rw [HN.out]; omega
              have hkq : K[q] = l[N1] := by
                have : ∀ (M : List Sp) (e : l.drop m = M) (h : q < M.length), M[q] = l[N1] := fun M e h => by
                  subst e
                  rw [List.getElem_drop]
                  simp only [hN1]
                exact this K hK hqK
              have hmq : N1 + 1 = N := by omega
              have hnw := of_decide_eq_true (ask_parts HR3.out).2.2
              have HKEEP := Lib.hid (Keep_is l K ⟨sb, by_, ag, co, gr⟩ now N L A' c' w.heap.size 0 w7 HN.out (by omega) HCAP.out.1 R7.out.out.2.size (HL0.out.below R7.out.out.2) hL (.inr ⟨rfl, HR3.out, m, hOI, hK.symm⟩))
              unfold ruagg ruarr at HKEEP
              dsimp only at HKEEP
              have HT1 := Lib.hid hT1
              have HT2 := Lib.hid hT2
              have HT3 := Lib.hid hT3
              have HLL := Lib.hid hL
              have hlr := RBox.loadRu R7.out
              have d0 : w7.cell? ⟨p, 0, none⟩ = some (.slice A' N c') := R7.out.cell 0
              have q1 : w7.cell? ⟨p, 1, none⟩ = some (.int .i64 sb) := R7.out.cell 1
              have q2 : w7.cell? ⟨p, 2, none⟩ = some (.int .i64 by_) := R7.out.cell 2
              have q3 : w7.cell? ⟨p, 3, none⟩ = some (.int .i64 ag) := R7.out.cell 3
              have q4 : w7.cell? ⟨p, 4, none⟩ = some (.bool co) := R7.out.cell 4
              have q5 : w7.cell? ⟨p, 5, none⟩ = some (.int .i64 gr) := R7.out.cell 5
              have HQ := Lib.hid (And.intro d0 (And.intro q1 (And.intro q2 (And.intro q3 (And.intro q4 (And.intro q5 d6))))))
              have HPP := Lib.hid R7.out.out.1.lt
              have HRX := Lib.hid (fun W (hb : Below w7.heap.size w7 W) => R7.out.out.2.trans (hb.mono R7.out.out.2.size))
              have HFA := Lib.hid (show (L : Int) - 1 = (q : Int) ∧ (q : Int) < (L : Int) ∧ (N : Int) - 1 = (N1 : Int) ∧ (N1 : Int) < (N : Int) ∧ ((L : Int) == 0) = false ∧ (L == 0) = false ∧ now + 1000 ≤ 1099511627776 ∧ 0 ≤ now ∧ (N : Int) - (L : Int) = (m : Int) ∧ (m : Int) ≤ (m2 : Int) ∧ L ≤ 250 ∧ m ≤ 250 from ⟨by omega, by omega, by omega, by omega, by rw [beq_eq_false_iff_ne]; omega, by rw [beq_eq_false_iff_ne]; omega, by omega, by omega, by omega, by omega, by omega, by omega⟩)
              have HHK := Lib.hid (And.intro hqK (And.intro hqN hkq))
              have HQL := Lib.hid hq
              have HN250 := Lib.hid hn250
              clear hOI hT1 hT2 hT3 hK hL hmN hLN hmq hN1 q1 q2 q3 q4 q5 HR3 hm2 hnw hn250 hq hnow
              go_wp2_with (refine wpList_load_any (by rfl) 25 (.tmp 43) rfl p 1 rfl _ hlr ?_; simp only [Act.put])
              refine HKEEP.out.mono ?_
              rintro e w8 ⟨Ak, ck, xk, rfl, hok, hb8⟩
              have hcapk := row_cap (show w8.ownsRow w7.heap.size 48 2 (.slice Ak L ck) L (xflat xk) by have := hok.row; rw [HLL.out] at this; exact this)
              have HCK := Lib.hid hcapk
              obtain ⟨gk, A1, c1, rfl, hlast⟩ := last_own HLL.out HQL.out hok HHK.out.1
              have S8 := Lib.hid (St.mk ⟨hb8, hok⟩)
              clear hok hb8 hlr d0 d6 f1 HKEEP hcapk R7
              obtain ⟨b1, o1, rfl, hb1, hcl⟩ := HL0.out.some_ (by have := HHK.out.2.1; omega)
              obtain ⟨A3, c3, hsg⟩ := hcl N1 HHK.out.2.1
              obtain ⟨t0, t1, hA3, _, hlim3⟩ := hsg
              rw [← HHK.out.2.2] at t0 t1 hA3 hlim3
              have HLS := Lib.hid hlast
              have hqK := HHK.out.1
              obtain ⟨kb, hkb⟩ : ∃ kb, K[q].b = kb := ⟨_, rfl⟩
              obtain ⟨M, hM⟩ : ∃ M, K[q].rs.length = M := ⟨_, rfl⟩
              have hEQ : ∀ W, St w7 (.slice (some ⟨gk, 0, none⟩) L ck) K xk W → Calls Try.prog 21 #[.agg #[.int .i64 kb, .slice A1 M c1], .agg #[.int .i64 kb, .slice A3 M c3]] W (fun e w' => e = .returned (.bool true) ∧ Below W.heap.size W w') := fun W h => by
                rw [← hM, ← hkb]
                exact EqSeg_same K[q].b K[q].rs A1 A3 c1 c3 W.heap.size w.heap.size W (by omega) (Nat.le_refl _) (HRX.out W h.bel).size (HLS.out W h.out.2).2.2 (hA3.below (HRX.out W h.bel))
              have HEQ := Lib.hid hEQ
              have st0 := S8.out
              haveI : Nonempty (In (St w7 (.slice (some ⟨gk, 0, none⟩) L ck) K xk)) := ⟨⟨_, st0⟩⟩
              have k0 := fun u : In (St w7 (.slice (some ⟨gk, 0, none⟩) L ck) K xk) => (u.h.bel.cell (p := ⟨p, 0, none⟩) HPP.out).trans HQ.out.1
              have kx := fun u : In (St w7 (.slice (some ⟨gk, 0, none⟩) L ck) K xk) => load_seg_at (HLS.out u.w u.h.out.2).1 (HLS.out u.w u.h.out.2).2.1
              have kp := fun u : In (St w7 (.slice (some ⟨gk, 0, none⟩) L ck) K xk) => load_seg_at (((HRX.out u.w u.h.bel).cell (p := ⟨b1, o1 + N1 * 2, none⟩) hb1).trans t0) (((HRX.out u.w u.h.bel).cell (p := ⟨b1, o1 + N1 * 2 + 1, none⟩) hb1).trans t1)
              rw [hkb, hM] at kx kp
              obtain ⟨f2, f3, f4, f5, f6, f7, _, _, _, _, f9, _⟩ := HFA.out
              have f8 : N ≤ 250 := HN250.out
              clear hlast hEQ hcl t0 t1 hA3 hlim3 hkb hM hqK S8
              go_upto_region 7 with fail
              refine region_in (S := St w7 (.slice (some ⟨gk, 0, none⟩) L ck) K xk) (by kernel_rfl) (by kernel_rfl) (st0.drewN 1) ?_
              iterate 14 (go_big_quiet_step (first | (go_at_call 13; exact in_call ((num_is _ _).mono fun _ _ h => ⟨h.1, h.2 ▸ In.h _⟩))))
              go_big_quiet_want
              refine quiet_load_in 48 (.tmp 63) rfl gk (q * 2) rfl _ kx ?_
              go_simp
              go_big_quiet_on
              iterate 7 (go_big_quiet_step (fail))
              go_big_quiet_want
              refine quiet_load_in 48 (.tmp 71) rfl b1 (o1 + N1 * 2) rfl _ kp ?_
              go_simp
              go_big_quiet_on
              repeat (go_big_quiet_step (first | (go_at_call 21; exact in_call ((HEQ.out _ (In.h _)).mono fun _ _ h => ⟨h.1, St.below (In.h _) h.2⟩))))
              refine wpQuiet_nil ?_
              rintro w9 ⟨⟨x9, st9⟩, rfl⟩
              have S9 := Lib.hid st9
              clear this st0 st9 k0 kx kp HEQ HLS f2 f3 f4 f5 f6 f7 f8 f9 hb1
              (try simp only [Bool.not_true, Bool.not_false])
              obtain ⟨_, _, _, _, _, _, g1, g2, g3, g4, g5, g8⟩ := HFA.out
              have d0 : w9.cell? ⟨p, 0, none⟩ = some (.slice (some ⟨b1, o1, none⟩) N c') := (S9.out.bel.cell (p := ⟨p, 0, none⟩) HPP.out).trans HQ.out.1
              have d6 : w9.cell? ⟨p, 6, none⟩ = some (.int .i64 now) := (S9.out.bel.cell (p := ⟨p, 6, none⟩) HPP.out).trans HQ.out.2.2.2.2.2.2
              have hlr := load_ru_at (g := p) (o := 1) ((S9.out.bel.cell (p := ⟨p, 1, none⟩) HPP.out).trans HQ.out.2.1) ((S9.out.bel.cell (p := ⟨p, 2, none⟩) HPP.out).trans HQ.out.2.2.1) ((S9.out.bel.cell (p := ⟨p, 3, none⟩) HPP.out).trans HQ.out.2.2.2.1) ((S9.out.bel.cell (p := ⟨p, 4, none⟩) HPP.out).trans HQ.out.2.2.2.2.1) ((S9.out.bel.cell (p := ⟨p, 5, none⟩) HPP.out).trans HQ.out.2.2.2.2.2.1)
              have HO1 := Lib.hid (HOLD.out K ⟨sb, by_, ag, co, gr⟩ now L 0 w9 (some ⟨gk, 0, none⟩) ck w9.heap.size HLL.out (by omega) HCK.out (Nat.le_refl _) (.of_own S9.out.out.2) HT1.out)
              rw [show ((0 : Nat) : Int) = 0 from rfl] at HO1
              clear d0
              go_wp2_with (refine wpList_load_any (by rfl) 25 (.tmp 78) rfl p 1 rfl _ hlr ?_; simp only [Act.put])
              refine HO1.out.mono ?_
              rintro e w10 ⟨rfl, hb10⟩
              have S10 := Lib.hid (S9.out.below hb10)
              clear S9 hb10 HO1 d6 hlr HT1 HCK
              have d0 : w10.cell? ⟨p, 0, none⟩ = some (.slice (some ⟨b1, o1, none⟩) N c') := (S10.out.bel.cell (p := ⟨p, 0, none⟩) HPP.out).trans HQ.out.1
              have d6 : w10.cell? ⟨p, 6, none⟩ = some (.int .i64 now) := (S10.out.bel.cell (p := ⟨p, 6, none⟩) HPP.out).trans HQ.out.2.2.2.2.2.2
              have hlr := load_ru_at (g := p) (o := 1) ((S10.out.bel.cell (p := ⟨p, 1, none⟩) HPP.out).trans HQ.out.2.1) ((S10.out.bel.cell (p := ⟨p, 2, none⟩) HPP.out).trans HQ.out.2.2.1) ((S10.out.bel.cell (p := ⟨p, 3, none⟩) HPP.out).trans HQ.out.2.2.2.1) ((S10.out.bel.cell (p := ⟨p, 4, none⟩) HPP.out).trans HQ.out.2.2.2.2.1) ((S10.out.bel.cell (p := ⟨p, 5, none⟩) HPP.out).trans HQ.out.2.2.2.2.2.1)
              have HO2 := Lib.hid (HOLD.out l ⟨sb, by_, ag, co, gr⟩ (now + 1000) N m2 w10 (some ⟨b1, o1, none⟩) c' w.heap.size HN.out (by have := HN250.out; omega) HCAP.out.1 (HRX.out w10 S10.out.bel).size (HL0.out.below (HRX.out w10 S10.out.bel)) HT2.out)
              go_wp2_with (refine wpList_load_any (by rfl) 25 (.tmp 88) rfl p 1 rfl _ hlr ?_; simp only [Act.put])
              refine HO2.out.mono ?_
              rintro e w11 ⟨rfl, hb11⟩
              have S11 := Lib.hid (S10.out.below hb11)
              clear S10 hb11 HO2 d0 d6 hlr HT2
              have d0 : w11.cell? ⟨p, 0, none⟩ = some (.slice (some ⟨b1, o1, none⟩) N c') := (S11.out.bel.cell (p := ⟨p, 0, none⟩) HPP.out).trans HQ.out.1
              have d6 : w11.cell? ⟨p, 6, none⟩ = some (.int .i64 now) := (S11.out.bel.cell (p := ⟨p, 6, none⟩) HPP.out).trans HQ.out.2.2.2.2.2.2
              have hlr := load_ru_at (g := p) (o := 1) ((S11.out.bel.cell (p := ⟨p, 1, none⟩) HPP.out).trans HQ.out.2.1) ((S11.out.bel.cell (p := ⟨p, 2, none⟩) HPP.out).trans HQ.out.2.2.1) ((S11.out.bel.cell (p := ⟨p, 3, none⟩) HPP.out).trans HQ.out.2.2.2.1) ((S11.out.bel.cell (p := ⟨p, 4, none⟩) HPP.out).trans HQ.out.2.2.2.2.1) ((S11.out.bel.cell (p := ⟨p, 5, none⟩) HPP.out).trans HQ.out.2.2.2.2.2.1)
              clear d0 d6
              obtain ⟨f, W4, hf, hW4, hbn, hbx, hbw⟩ := any_box (Below.refl w11.heap.size w11) 25 (ruarr 0 0 0 false 0) (ruarr sb by_ ag co gr)
              have HBN := Lib.hid hbn
              have F12 := Lib.hid hbx
              have HF11 : Hid (w11.heap.size ≤ f) := Nat.le_of_eq hf
              unfold ruarr at hW4 F12
              have HW4 := Lib.hid hW4
              clear hbn hbx hbw hW4
              go_upto_region 12 with (first | (refine wpList_load_any (by rfl) 25 (.tmp 96) rfl p 1 rfl _ hlr ?_; simp only [Act.put]) | (rw [HW4.out]; refine wpList_store_whole rfl 25 (.tmp 11) (.tmp 97) rfl f _ rfl rfl _ HBN.out info_ru rfl (by simp [Value.oneCell']) ?_; simp only [Act.put]))
              clear HW4 HBN hf hlr
              generalize World.setRow _ _ _ = w12 at F12 ⊢
              have c1' : w12.cell? ⟨f, 1, none⟩ = some (.int .i64 by_) := F12.out.cell 1
              have c2' : w12.cell? ⟨f, 2, none⟩ = some (.int .i64 ag) := F12.out.cell 2
              have z1 := F12.out.out.1.frozen 1
              have z2 := F12.out.out.1.frozen 2
              have F13 : Hid (RBox w11 f #[.int .i64 sb, .int .i64 (-1), .int .i64 (-1), .bool co, .int .i64 gr] ((w12.setCell ⟨f, 1, none⟩ (.int .i64 (-1))).setCell ⟨f, 2, none⟩ (.int .i64 (-1)))) := kbox_put (kbox_put F12.out HF11.out 1 (.int .i64 (-1))) HF11.out 2 (.int .i64 (-1))
              clear F12
              go_upto_region 13 with fail
              clear c1' c2' z1 z2
              generalize World.setCell _ _ _ = w13 at F13 ⊢
              have S13 := Lib.hid (S11.out.below F13.out.out.2)
              have hlf := load_ru F13.out.out.1 rfl
              clear S11
              have d0 : w13.cell? ⟨p, 0, none⟩ = some (.slice (some ⟨b1, o1, none⟩) N c') := (S13.out.bel.cell (p := ⟨p, 0, none⟩) HPP.out).trans HQ.out.1
              have d6 : w13.cell? ⟨p, 6, none⟩ = some (.int .i64 now) := (S13.out.bel.cell (p := ⟨p, 6, none⟩) HPP.out).trans HQ.out.2.2.2.2.2.2
              have hlr := load_ru_at (g := p) (o := 1) ((S13.out.bel.cell (p := ⟨p, 1, none⟩) HPP.out).trans HQ.out.2.1) ((S13.out.bel.cell (p := ⟨p, 2, none⟩) HPP.out).trans HQ.out.2.2.1) ((S13.out.bel.cell (p := ⟨p, 3, none⟩) HPP.out).trans HQ.out.2.2.2.1) ((S13.out.bel.cell (p := ⟨p, 4, none⟩) HPP.out).trans HQ.out.2.2.2.2.1) ((S13.out.bel.cell (p := ⟨p, 5, none⟩) HPP.out).trans HQ.out.2.2.2.2.2.1)
              have HO3 := Lib.hid (HOLD.out l ⟨sb, -1, -1, co, gr⟩ now N 0 w13 (some ⟨b1, o1, none⟩) c' w.heap.size HN.out (by have := HN250.out; omega) HCAP.out.1 (HRX.out w13 S13.out.bel).size (HL0.out.below (HRX.out w13 S13.out.bel)) HT3.out)
              rw [show ((0 : Nat) : Int) = 0 from rfl] at HO3
              clear hlr
              go_wp2_with (refine wpList_load_any (by rfl) 25 (.tmp 11) rfl f 0 rfl _ hlf ?_; simp only [Act.put])
              refine HO3.out.mono ?_
              rintro e w14 ⟨rfl, hb14⟩
              have S14 := Lib.hid (S13.out.below hb14)
              clear S13 hb14 HO3 d0 d6 hlf F13 HT3
              have d0 : w14.cell? ⟨p, 0, none⟩ = some (.slice (some ⟨b1, o1, none⟩) N c') := (S14.out.bel.cell (p := ⟨p, 0, none⟩) HPP.out).trans HQ.out.1
              have g6 : decide ((m2 : Int) < (m : Int)) = false := decide_eq_false (by omega)
              have g7 : decide (m2 < m) = false := decide_eq_false (by omega)
              clear g4 g1 g2
              go_wp2_with (go_at_call 13; refine (num_is _ _).mono ?_; rintro e w' ⟨rfl, rfl⟩)
              go_roundw
              case rel => exact ⟨k + 1, hlt, hlt8, by go_num, HRX.out w14 S14.out.bel⟩
              case measure => simp [RowKit.intOf]; omega
      · have e3 : ¬ (k : Int) < 8 := by omega
        have HWK := Lib.hid (wakes_any)
        have HR1 := Lib.hid (R_is 1 1 ⟨#[]⟩ ⟨#[]⟩ wr)
        have HRC := Lib.hid (fun W => RRec_is (bare 1 1) true W (by decide))
        unfold ragg at HRC
        unfold rarr at HR1 HRC
        have hb0 : str (bare 1 1).k = ⟨#[]⟩ := rfl
        have hb1 : str (bare 1 1).b = ⟨#[]⟩ := rfl
        rw [hb0, hb1] at HRC
        unfold bare at HRC
        dsimp only at HRC
        clear hb0 hb1
        go_wp2_with fail
        refine HR1.out.mono ?_
        rintro e w1 ⟨rfl, hb1⟩
        have B1 := Lib.hid (bel_step HB.out hb1)
        clear hb1 HB HR1
        go_wp2_with fail
        refine (HRC.out w1).mono ?_
        rintro e w2 ⟨rfl, hb2⟩
        have B2 := Lib.hid (bel_step B1.out hb2)
        clear hb2 B1 HRC
        go_wp2_with fail
        refine (HWK.out w2).mono ?_
        rintro e w3 ⟨rfl, hb3⟩
        have B3 := Lib.hid (bel_step B2.out hb3)
        clear hb3 B2 HWK
        go_wp2_with fail
        go_ret
        exact ⟨rfl, B3.out⟩
    · have e3 : ¬ (k : Int) < (n : Int) := by omega
      have HWK := Lib.hid (wakes_any)
      have HR1 := Lib.hid (R_is 1 1 ⟨#[]⟩ ⟨#[]⟩ wr)
      have HRC := Lib.hid (fun W => RRec_is (bare 1 1) true W (by decide))
      unfold ragg at HRC
      unfold rarr at HR1 HRC
      have hb0 : str (bare 1 1).k = ⟨#[]⟩ := rfl
      have hb1 : str (bare 1 1).b = ⟨#[]⟩ := rfl
      rw [hb0, hb1] at HRC
      unfold bare at HRC
      dsimp only at HRC
      clear hb0 hb1
      go_wp2_with fail
      refine HR1.out.mono ?_
      rintro e w1 ⟨rfl, hb1⟩
      have B1 := Lib.hid (bel_step HB.out hb1)
      clear hb1 HB HR1
      go_wp2_with fail
      refine (HRC.out w1).mono ?_
      rintro e w2 ⟨rfl, hb2⟩
      have B2 := Lib.hid (bel_step B1.out hb2)
      clear hb2 B1 HRC
      go_wp2_with fail
      refine (HWK.out w2).mono ?_
      rintro e w3 ⟨rfl, hb3⟩
      have B3 := Lib.hid (bel_step B2.out hb3)
      clear hb3 B2 HWK
      go_wp2_with fail
      go_ret
      exact ⟨rfl, B3.out⟩
end Go.Proofs.Ytgadgmcabjnjjaa.Kpd
/- For every list of asks: the open segment stays; done again nothing more goes; later no fewer go; without bounds none. No condition. -/
namespace Go.Proofs.Ytgadgmcabjnjjaa.keepTwice
open Go.ChangeShapes Go.WideShapes Go.ChangeAt Go.RowKit Kpd

set_option maxRecDepth 100000 in
theorem lifted (os : Os) (started : os.Started) (H : Type) (enc : TypeId × Value → H) :
    ReturnsInHanded {} Try.checked os 4 .any (Rows.keepTwiceSpec.pre6 enc Try.prog Try.f4 Rows.keepTwiceRow.domain false) (Rows.keepTwiceSpec.post enc Try.prog Try.f4 false true false false) := by
  refine returnsInHanded_of_change_sized (C := Try.checked) ownKnob_none started (by kernel_rfl) Try.func4
    (ChangeSpec.witness6 (enc := enc) (C := Try.checked) false ⟨#[], #[.slice none 0 0], []⟩ 8 (by kernel_rfl) (by kernel_rfl) (by kernel_rfl) (by kernel_rfl)) ?_
  intro W base args ds gs before hval0 hW _ hsz0 _
  have hval : ∀ (j : Nat) t v, Try.f4.params[j]? = some t → args[j]? = some v → Value.okWide Try.prog W .any base t v := hval0
  have hW' := hW
  obtain ⟨p, q, hA0, hV, rfl, _, _⟩ := hW
  have hA : DataW.TrodAll enc Try.prog W 0 (fun _ => true) true Try.f4.params.toList args.toList ds p := hA0
  rw [Try.params4] at hA hval
  obtain ⟨v0, d0, rfl, rfl, h0⟩ := trodAll_one hA
  obtain ⟨rfl, rfl⟩ := trodVars_none hV
  obtain ⟨a0, n0, c0, rfl⟩ := okWide_slice Try.underlying22 (hval 0 22 v0 rfl rfl)
  have lt0 : ∀ x ∈ p, x.block < W.heap.size := by obtain ⟨m, hm⟩ := h0; exact DataW.trod_lt m _ _ _ hm
  have near : Near 22 d0 := fun n hn => by
    have := List.all_eq_true.1 hsz0 n (DataW.weights_mem_each (j := 0) (t := 22) (d := d0) (by rw [Try.params4]; rfl) rfl n hn)
    simpa using this
  clear hA0 hval0
  refine (KeepTwice_any a0 n0 c0 W (asks_near near h0)).mono fun e W' ⟨he, bel⟩ => ?_
  subst he
  exact ⟨_, rfl, _, _, _, [], _, [], hW', trodAll_mk1 (shut_bool Try.underlying4 _), trodAll_mk1 (Below.trod laidOut_true (by kernel_rfl) (of_decide_eq_true (by kernel_rfl)) h0 bel lt0), rfl, bel.frame _, fun h => by cases h⟩

theorem over : Rows.keepTwiceRow.holds Try.pinned (OpenSpec.ofChange Rows.keepTwiceSpec) :=
  OpenClaim.holds_of_wide 4 Try.f4 rfl rfl rfl rfl rfl rfl rfl ⟨rfl, rfl, rfl, rfl, rfl⟩ rfl rfl rfl rfl rfl (by kernel_rfl) Try.func4 (by kernel_rfl)
    (of_decide_eq_true (by kernel_rfl)) (by unfold Func.isWrapper; rw [if_neg (of_decide_eq_false (by kernel_rfl))]; exact ⟨rfl, rfl⟩)
    (fun os started H enc _ => lifted os started H enc)

theorem proved : Rows.KeepTwiceSaid := over
#print axioms proved
end Go.Proofs.Ytgadgmcabjnjjaa.keepTwice
