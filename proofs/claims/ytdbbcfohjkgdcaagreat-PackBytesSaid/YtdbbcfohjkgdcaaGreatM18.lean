/- Package pack: all behind a packet's length. -/
import Derived.Test.YtdbbcfohjkgdcaaGreatM00
import Derived.Test.YtdbbcfohjkgdcaaGreatM17
set_option maxRecDepth 100000
set_option maxHeartbeats 64000000
namespace Go.Proofs.YtdbbcfohjkgdcaaGreat.Pkt
open Prp Vbi
theorem connRest_eq (p : Pk) (st : St) {K : Int} {L : List P} {C U PW : ByteArray} {wl : Wl} {s3 s4 s5 s9 s10 s11 : St} (h3 : (st.run shortR).val 0 = K) (g3 : (st.run shortR).st = s3) (h4 : (s3.run (propsR p.kind)).val [] = L) (g4 : (s3.run (propsR p.kind)).st = s4)
  (h5 : (s4.run (longR true)).val ⟨#[]⟩ = C) (g5 : (s4.run (longR true)).st = s5) (hw : willS p.w s5 = (wl, s9)) (hu : ifR p.hu true s9 = (U, s10)) (hp : ifR p.hp false s10 = (PW, s11)) :
  connRest p st = ({ p with keep := K, ps := L, cl := C, w := wl, u := U, pw := PW }, s11) := by
 subst h3 g3 h4 g4 h5 g5
 unfold connRest
 simp only [hw, hu, hp]
theorem will_yes {w : Wl} {st : St} (h : w.has = true) {L : List P} {T Bd : ByteArray} {s6 s7 s9 : St} (h6 : (st.run (propsR 0)).val [] = L) (g6 : (st.run (propsR 0)).st = s6) (h7 : (s6.run (longR true)).val ⟨#[]⟩ = T) (g7 : (s6.run (longR true)).st = s7)
  (h9 : ((s7.want (decide (T ≠ ⟨#[]⟩)) 8).run (longR false)).val ⟨#[]⟩ = Bd) (g9 : ((s7.want (decide (T ≠ ⟨#[]⟩)) 8).run (longR false)).st = s9) : willS w st = ({ w with ps := L, t := T, b := Bd }, s9) := by
 subst h6 g6 h7 g7 h9 g9
 unfold willS
 rw [if_pos h]
theorem will_no {w : Wl} {st : St} (h : w.has = false) : willS w st = (w, st) := by
 unfold willS
 rw [if_neg (by rw [h]; decide)]
end Go.Proofs.YtdbbcfohjkgdcaaGreat.Pkt
namespace Go.Proofs.YtdbbcfohjkgdcaaGreat
open Go.RowKit Go.Lib Prp Pkt Vbi
theorem connect_is (B g h : Nat) (w0 : World) (st : St) (a : Ad) (w : World) (hl : Live true B w0 g h st (zp 1) a w) :
  Calls Tryz.prog 117 #[.pointer (some ⟨g, 0, none⟩), .pointer (some ⟨h, 0, none⟩)] w (Done true B w0 g h (connectS (zp 1) st)) := by
 have HP := Lib.hid (protocol_is g st w hl.rd)
 have HF0 := fun (W : World) (hl : Live true B w0 g h (connHead st) (zp 1) a W) => flags_is B g h w0 (connHead st) (zp 1) a W rfl hl
 obtain ⟨sh, hsh⟩ : ∃ s, connHead st = s := ⟨_, rfl⟩
 obtain ⟨n, hn⟩ : ∃ n, connFlags st = n := ⟨_, rfl⟩
 obtain ⟨s1, hs1⟩ : ∃ s, connSt st = s := ⟨_, rfl⟩
 obtain ⟨W0, hW0⟩ : ∃ x, willOf n = x := ⟨_, rfl⟩
 obtain ⟨bc, hbc⟩ : ∃ b, decide (n / 2 % 2 = 1) = b := ⟨_, rfl⟩
 obtain ⟨bp, hbp⟩ : ∃ b, decide (n / 64 % 2 = 1) = b := ⟨_, rfl⟩
 obtain ⟨bu, hbu⟩ : ∃ b, decide (n / 128 = 1) = b := ⟨_, rfl⟩
 have HF : Hid (∀ W : World, Live true B w0 g h sh (zp 1) a W → Calls Tryz.prog 144 #[.pointer (some ⟨g, 0, none⟩), .pointer (some ⟨h, 0, none⟩)] W fun r w' => r = .returned (.tuple #[]) ∧ ∃ a', Live true B w0 g h s1 { zp 1 with clean := bc, hp := bp, hu := bu, w := W0 } a' w') := by
  subst hbu hbp hbc hW0 hs1 hn hsh
  exact HF0
 have HEQ : connectS (zp 1) st = connRest { zp 1 with clean := bc, hp := bp, hu := bu, w := W0 } s1 := by
  subst hbu hbp hbc hW0 hs1 hn
  rfl
 rw [hsh] at HP
 clear hbu hbp hbc hW0 hs1 hn HF0 hsh
 obtain ⟨K, hK⟩ : ∃ K, (s1.run shortR).val 0 = K := ⟨_, rfl⟩
 obtain ⟨s3, hs3⟩ : ∃ s, (s1.run shortR).st = s := ⟨_, rfl⟩
 have H30 := fun (W : World) (hr : RdOf true W g s1) => short_next g s1 W hr
 rw [hK, hs3] at H30
 obtain ⟨L, hL⟩ : ∃ L, (s3.run (propsR 1)).val [] = L := ⟨_, rfl⟩
 obtain ⟨s4, hs4⟩ : ∃ s, (s3.run (propsR 1)).st = s := ⟨_, rfl⟩
 have H40 := fun (W : World) (hr : RdOf true W g s3) => pprops_st 1 g s3 W hr
 rw [hL, hs4] at H40
 obtain ⟨C, hC⟩ : ∃ C, (s4.run (longR true)).val ⟨#[]⟩ = C := ⟨_, rfl⟩
 obtain ⟨s5, hs5⟩ : ∃ s, (s4.run (longR true)).st = s := ⟨_, rfl⟩
 have H50 := fun (W : World) (hr : RdOf true W g s4) => words_st g s4 W hr
 rw [hC, hs5] at H50
 have HE : Hid (∀ (bp bu : Bool) (wl : Wl) (U PW : ByteArray) (s9 s10 s11 : St), willS W0 s5 = (wl, s9) → ifR bu true s9 = (U, s10) → ifR bp false s10 = (PW, s11) →
   connRest { zp 1 with clean := bc, hp := bp, hu := bu, w := W0 } s1 = ({ zp 1 with clean := bc, hp := bp, hu := bu, w := wl, keep := K, ps := L, cl := C, u := U, pw := PW }, s11)) :=
  fun bp bu wl U PW s9 s10 s11 e1 e2 e3 => connRest_eq { zp 1 with clean := bc, hp := bp, hu := bu, w := W0 } s1 hK hs3 hL hs4 hC hs5 e1 e2 e3
 rw [HEQ]
 have H3 := Lib.hid H30
 have H4 := Lib.hid H40
 have H5 := Lib.hid H50
 have HL := Lib.hid hl
 clear hl H30 H40 H50 hK hs3 hL hs4 hC hs5 HEQ
 have hgh : ¬ g = h := HL.out.out.2.2.2.1
 go_enter Tryz.func117, Tryz.ntmps117
 go_wp2_with fail
 refine HP.out.mono ?_
 rintro r w1 ⟨rfl, k1, k2⟩
 have HL1 := Lib.hid (HL.out.bar k2 k1)
 clear k1 k2 HL HP
 go_wp2_with fail
 refine (HF.out _ HL1.out).mono ?_
 rintro r w2 ⟨rfl, a2, k1⟩
 have HL2 := Lib.hid k1
 clear k1 HL1 HF
 go_wp2_with fail
 refine (H3.out _ HL2.out.rd).mono ?_
 rintro r w3 ⟨rfl, k1, k2⟩
 have HL3 := Lib.hid (HL2.out.bar k2 k1)
 clear k1 k2 HL2 H3
 have d13 := HL3.out.f13
 have f13 := HL3.out.frozen 13
 have d0 : w3.cell? ⟨h, 0, none⟩ = some (.int .i64 1) := HL3.out.f0
 have HL4 := Lib.hid (HL3.out.put1 13 (.int .i64 K) { zp 1 with clean := bc, hp := bp, hu := bu, w := W0, keep := K } rfl rfl rfl rfl rfl)
 go_wp2_with fail
 refine (H4.out _ HL4.out.rd).mono ?_
 rintro r w4 ⟨A, c, rfl, k1, k2, k3, k4, k5⟩
 have HL5 := Lib.hid (HL4.out.bar k5 k4)
 have HN := Lib.hid (HL4.out.off k2)
 have HA := Lib.hid k3
 have HC := Lib.hid k1
 clear k1 k2 k3 k4 k5 d0 d13 f13 HL3 HL4 H4
 have d24 := HL5.out.f24
 have f24 := HL5.out.frozen 24
 have HL6 := Lib.hid (HL5.out.props HA.out HN.out HC.out)
 go_wp2_with fail
 refine (H5.out _ HL6.out.rd).mono ?_
 rintro r w5 ⟨rfl, k1, k2⟩
 have HL7 := Lib.hid (HL6.out.bar k2 k1)
 clear k1 k2 d24 f24 HL5 HL6 H5 HN HA HC
 have d11 := HL7.out.f11
 have f11 := HL7.out.frozen 11
 have HL8 := Lib.hid (HL7.out.put1 11 (.string C) { zp 1 with clean := bc, hp := bp, hu := bu, w := W0, keep := K, ps := L, cl := C } rfl rfl rfl rfl rfl)
 go_upto_region 5 with fail
 clear HL7 d11 f11
 generalize World.setCell _ _ _ = W8 at HL8 ⊢
 obtain ⟨hasb, hhas⟩ : ∃ b, W0.has = b := ⟨_, rfl⟩
 have d14 : W8.cell? ⟨h, 14, none⟩ = some (.bool hasb) := by rw [← hhas]; exact HL8.out.f14
 cases hasb with
 | false =>
  have HWN := Lib.hid (will_no (st := s5) hhas)
  clear hhas
  go_upto_region 11 with fail
  have HLW := HL8
  clear HL8 d14
  have d20 := HLW.out.f20
  cases bu with
  | true =>
   obtain ⟨U, hU⟩ : ∃ U, (s5.run (longR true)).val ⟨#[]⟩ = U := ⟨_, rfl⟩
   obtain ⟨s10, hs10⟩ : ∃ s, (s5.run (longR true)).st = s := ⟨_, rfl⟩
   have HT0 := fun (W : World) (hr : RdOf true W g s5) => words_st g s5 W hr
   rw [hU, hs10] at HT0
   have HIU : Hid (ifR true true s5 = (U, s10)) := by show _ = _; rw [← hU, ← hs10]; rfl
   have HT := Lib.hid HT0
   clear hU hs10 HT0
   go_wp2_with fail
   refine (HT.out _ HLW.out.rd).mono ?_
   rintro r wu ⟨rfl, k1, k2⟩
   have HLX := Lib.hid (HLW.out.bar k2 k1)
   clear k1 k2 HLW
   have d21 := HLX.out.f21
   have f21 := HLX.out.frozen 21
   have HLU := Lib.hid (HLX.out.put1 21 (.string U) { zp 1 with clean := bc, hp := bp, hu := true, w := W0, keep := K, ps := L, cl := C, u := U } rfl rfl rfl rfl rfl)
   go_upto_region 13 with fail
   clear HLX d21 f21
   generalize hWu : World.setCell _ _ _ = Wu at HLU ⊢
   have d22 := HLU.out.f22
   cases bp with
   | true =>
    obtain ⟨PW, hPW⟩ : ∃ U, (s10.run (longR false)).val ⟨#[]⟩ = U := ⟨_, rfl⟩
    obtain ⟨s11, hs11⟩ : ∃ s, (s10.run (longR false)).st = s := ⟨_, rfl⟩
    have HT0 := fun (W : World) (hr : RdOf true W g s10) => bin_next g s10 W hr
    rw [hPW, hs11] at HT0
    have HIP : Hid (ifR true false s10 = (PW, s11)) := by show _ = _; rw [← hPW, ← hs11]; rfl
    have HT := Lib.hid HT0
    clear hPW hs11 HT0
    go_wp2_with fail
    refine (HT.out _ HLU.out.rd).mono ?_
    rintro r wp ⟨rfl, k1, k2⟩
    have HLX := Lib.hid (HLU.out.bar k2 k1)
    clear k1 k2 HLU d22
    have d23 := HLX.out.f23
    have f23 := HLX.out.frozen 23
    have HLP := Lib.hid (HLX.out.put1 23 (.string PW) { zp 1 with clean := bc, hp := true, hu := true, w := W0, keep := K, ps := L, cl := C, u := U, pw := PW } rfl rfl rfl rfl rfl)
    go_wp2_with fail
    have HEE := HE.out true true _ _ _ _ _ _ HWN.out HIU.out HIP.out
    exact bodyPost_end (v := .tuple #[]) (by simp [results, Tryz.results117]) rfl ⟨rfl, _, _, by rw [HEE]; exact HLP.out, by rw [HEE]; exact fun _ => rfl⟩
   | false =>
    go_wp2_with fail
    have HEE := HE.out false true _ _ _ _ _ _ HWN.out HIU.out rfl
    exact bodyPost_end (v := .tuple #[]) (by simp [results, Tryz.results117]) rfl ⟨rfl, _, _, by rw [HEE]; exact HLU.out, by rw [HEE]; exact fun _ => rfl⟩
  | false =>
   go_upto_region 13 with fail
   have HLU := HLW
   clear HLW
   skip
   have d22 := HLU.out.f22
   cases bp with
   | true =>
    obtain ⟨PW, hPW⟩ : ∃ U, (s5.run (longR false)).val ⟨#[]⟩ = U := ⟨_, rfl⟩
    obtain ⟨s11, hs11⟩ : ∃ s, (s5.run (longR false)).st = s := ⟨_, rfl⟩
    have HT0 := fun (W : World) (hr : RdOf true W g s5) => bin_next g s5 W hr
    rw [hPW, hs11] at HT0
    have HIP : Hid (ifR true false s5 = (PW, s11)) := by show _ = _; rw [← hPW, ← hs11]; rfl
    have HT := Lib.hid HT0
    clear hPW hs11 HT0
    go_wp2_with fail
    refine (HT.out _ HLU.out.rd).mono ?_
    rintro r wp ⟨rfl, k1, k2⟩
    have HLX := Lib.hid (HLU.out.bar k2 k1)
    clear k1 k2 HLU d22
    have d23 := HLX.out.f23
    have f23 := HLX.out.frozen 23
    have HLP := Lib.hid (HLX.out.put1 23 (.string PW) { zp 1 with clean := bc, hp := true, hu := false, w := W0, keep := K, ps := L, cl := C, pw := PW } rfl rfl rfl rfl rfl)
    go_wp2_with fail
    have HEE := HE.out true false _ _ _ _ _ _ HWN.out rfl HIP.out
    exact bodyPost_end (v := .tuple #[]) (by simp [results, Tryz.results117]) rfl ⟨rfl, _, _, by rw [HEE]; exact HLP.out, by rw [HEE]; exact fun _ => rfl⟩
   | false =>
    go_wp2_with fail
    have HEE := HE.out false false _ _ _ _ _ _ HWN.out rfl rfl
    exact bodyPost_end (v := .tuple #[]) (by simp [results, Tryz.results117]) rfl ⟨rfl, _, _, by rw [HEE]; exact HLU.out, by rw [HEE]; exact fun _ => rfl⟩
 | true =>
  obtain ⟨WL, hWL⟩ : ∃ L, (s5.run (propsR 0)).val [] = L := ⟨_, rfl⟩
  obtain ⟨s6, hs6⟩ : ∃ s, (s5.run (propsR 0)).st = s := ⟨_, rfl⟩
  have H60 := fun (W : World) (hr : RdOf true W g s5) => pprops_st 0 g s5 W hr
  rw [hWL, hs6] at H60
  obtain ⟨WT, hWT⟩ : ∃ C, (s6.run (longR true)).val ⟨#[]⟩ = C := ⟨_, rfl⟩
  obtain ⟨s7, hs7⟩ : ∃ s, (s6.run (longR true)).st = s := ⟨_, rfl⟩
  have H70 := fun (W : World) (hr : RdOf true W g s6) => words_st g s6 W hr
  rw [hWT, hs7] at H70
  obtain ⟨s8, hs8⟩ : ∃ s, s7.want (decide (WT ≠ ⟨#[]⟩)) 8 = s := ⟨_, rfl⟩
  obtain ⟨WB, hWB⟩ : ∃ C, (s8.run (longR false)).val ⟨#[]⟩ = C := ⟨_, rfl⟩
  obtain ⟨s9, hs9⟩ : ∃ s, (s8.run (longR false)).st = s := ⟨_, rfl⟩
  have H90 := fun (W : World) (hr : RdOf true W g s8) => bin_next g s8 W hr
  rw [hWB, hs9] at H90
  have HWN : Hid (willS W0 s5 = ({ W0 with ps := WL, t := WT, b := WB }, s9)) := will_yes hhas hWL hs6 hWT hs7 (by rw [hs8]; exact hWB) (by rw [hs8]; exact hs9)
  have H6 := Lib.hid H60
  have H7 := Lib.hid H70
  have H9 := Lib.hid H90
  have HX : Hid (WT = ⟨#[]⟩ → ∀ W, RdOf true W g s7 → Calls Tryz.prog 103 #[.pointer (some ⟨g, 0, none⟩), .int .i64 8] W fun r w' => r = .returned (.tuple #[]) ∧ RdOf true w' g s8 ∧ Bar g W w') := fun e W hr => by
   have := fail_st g s7 8 W (by decide) hr
   rw [← hs8, e]
   exact this
  have HX2 : Hid (WT ≠ ⟨#[]⟩ → s8 = s7) := fun e => by rw [← hs8, decide_eq_true e, want_true]
  clear hhas hWL hs6 hWT hs7 hs8 hWB hs9 H60 H70 H90
  go_wp2_with fail
  refine (H6.out _ HL8.out.rd).mono ?_
  rintro r w6 ⟨A2, c2, rfl, k1, k2, k3, k4, k5⟩
  have HL9 := Lib.hid (HL8.out.bar k5 k4)
  have HN := Lib.hid (HL8.out.off k2)
  have HA := Lib.hid k3
  have HC := Lib.hid k1
  clear k1 k2 k3 k4 k5 d14 HL8 H6
  have d19 := HL9.out.f19
  have f19 := HL9.out.frozen 19
  have HL10 := Lib.hid (HL9.out.wprops HA.out HN.out HC.out)
  go_wp2_with fail
  refine (H7.out _ HL10.out.rd).mono ?_
  rintro r w7 ⟨rfl, k1, k2⟩
  have HL11 := Lib.hid (HL10.out.bar k2 k1)
  clear k1 k2 d19 f19 HL9 HL10 H7 HN HA HC
  have d17 := HL11.out.f17
  have f17 := HL11.out.frozen 17
  have HL12 := Lib.hid (HL11.out.put1 17 (.string WT) { zp 1 with clean := bc, hp := bp, hu := bu, w := { W0 with ps := WL, t := WT }, keep := K, ps := L, cl := C } rfl rfl rfl rfl rfl)
  by_cases hz : WT.size = 0
  ·obtain rfl : WT = ⟨#[]⟩ := ByteArray.size_eq_zero_iff.1 hz
   have HX1 := Lib.hid (HX.out rfl)
   clear hz HX HX2
   go_wp2_with fail
   refine (HX1.out _ HL12.out.rd).mono ?_
   rintro r w8 ⟨rfl, k1, k2⟩
   have HL13 := Lib.hid (HL12.out.bar k2 k1)
   clear k1 k2 d17 f17 HL11 HL12 HX1
   go_wp2_with fail
   refine (H9.out _ HL13.out.rd).mono ?_
   rintro r w9 ⟨rfl, k1, k2⟩
   have HL14 := Lib.hid (HL13.out.bar k2 k1)
   clear k1 k2 HL13 H9
   have d18 := HL14.out.f18
   have f18 := HL14.out.frozen 18
   have HLW0 := Lib.hid (HL14.out.put1 18 (.string WB) { zp 1 with clean := bc, hp := bp, hu := bu, w := { W0 with ps := WL, t := ⟨#[]⟩, b := WB }, keep := K, ps := L, cl := C } rfl rfl rfl rfl rfl)
   go_upto_region 11 with fail
   clear d18 f18 HL14
   generalize World.setCell _ _ _ = W9 at HLW0 ⊢
   have HLW := HLW0
   clear HLW0
   have d20 := HLW.out.f20
   cases bu with
   | true =>
    obtain ⟨U, hU⟩ : ∃ U, (s9.run (longR true)).val ⟨#[]⟩ = U := ⟨_, rfl⟩
    obtain ⟨s10, hs10⟩ : ∃ s, (s9.run (longR true)).st = s := ⟨_, rfl⟩
    have HT0 := fun (W : World) (hr : RdOf true W g s9) => words_st g s9 W hr
    rw [hU, hs10] at HT0
    have HIU : Hid (ifR true true s9 = (U, s10)) := by show _ = _; rw [← hU, ← hs10]; rfl
    have HT := Lib.hid HT0
    clear hU hs10 HT0
    go_wp2_with fail
    refine (HT.out _ HLW.out.rd).mono ?_
    rintro r wu ⟨rfl, k1, k2⟩
    have HLX := Lib.hid (HLW.out.bar k2 k1)
    clear k1 k2 HLW
    have d21 := HLX.out.f21
    have f21 := HLX.out.frozen 21
    have HLU := Lib.hid (HLX.out.put1 21 (.string U) { zp 1 with clean := bc, hp := bp, hu := true, w := { W0 with ps := WL, t := ⟨#[]⟩, b := WB }, keep := K, ps := L, cl := C, u := U } rfl rfl rfl rfl rfl)
    go_upto_region 13 with fail
    clear HLX d21 f21
    generalize hWu : World.setCell _ _ _ = Wu at HLU ⊢
    have d22 := HLU.out.f22
    cases bp with
    | true =>
     obtain ⟨PW, hPW⟩ : ∃ U, (s10.run (longR false)).val ⟨#[]⟩ = U := ⟨_, rfl⟩
     obtain ⟨s11, hs11⟩ : ∃ s, (s10.run (longR false)).st = s := ⟨_, rfl⟩
     have HT0 := fun (W : World) (hr : RdOf true W g s10) => bin_next g s10 W hr
     rw [hPW, hs11] at HT0
     have HIP : Hid (ifR true false s10 = (PW, s11)) := by show _ = _; rw [← hPW, ← hs11]; rfl
     have HT := Lib.hid HT0
     clear hPW hs11 HT0
     go_wp2_with fail
     refine (HT.out _ HLU.out.rd).mono ?_
     rintro r wp ⟨rfl, k1, k2⟩
     have HLX := Lib.hid (HLU.out.bar k2 k1)
     clear k1 k2 HLU d22
     have d23 := HLX.out.f23
     have f23 := HLX.out.frozen 23
     have HLP := Lib.hid (HLX.out.put1 23 (.string PW) { zp 1 with clean := bc, hp := true, hu := true, w := { W0 with ps := WL, t := ⟨#[]⟩, b := WB }, keep := K, ps := L, cl := C, u := U, pw := PW } rfl rfl rfl rfl rfl)
     go_wp2_with fail
     have HEE := HE.out true true _ _ _ _ _ _ HWN.out HIU.out HIP.out
     exact bodyPost_end (v := .tuple #[]) (by simp [results, Tryz.results117]) rfl ⟨rfl, _, _, by rw [HEE]; exact HLP.out, by rw [HEE]; exact fun _ => rfl⟩
    | false =>
     go_wp2_with fail
     have HEE := HE.out false true _ _ _ _ _ _ HWN.out HIU.out rfl
     exact bodyPost_end (v := .tuple #[]) (by simp [results, Tryz.results117]) rfl ⟨rfl, _, _, by rw [HEE]; exact HLU.out, by rw [HEE]; exact fun _ => rfl⟩
   | false =>
    go_upto_region 13 with fail
    have HLU := HLW
    clear HLW
    skip
    have d22 := HLU.out.f22
    cases bp with
    | true =>
     obtain ⟨PW, hPW⟩ : ∃ U, (s9.run (longR false)).val ⟨#[]⟩ = U := ⟨_, rfl⟩
     obtain ⟨s11, hs11⟩ : ∃ s, (s9.run (longR false)).st = s := ⟨_, rfl⟩
     have HT0 := fun (W : World) (hr : RdOf true W g s9) => bin_next g s9 W hr
     rw [hPW, hs11] at HT0
     have HIP : Hid (ifR true false s9 = (PW, s11)) := by show _ = _; rw [← hPW, ← hs11]; rfl
     have HT := Lib.hid HT0
     clear hPW hs11 HT0
     go_wp2_with fail
     refine (HT.out _ HLU.out.rd).mono ?_
     rintro r wp ⟨rfl, k1, k2⟩
     have HLX := Lib.hid (HLU.out.bar k2 k1)
     clear k1 k2 HLU d22
     have d23 := HLX.out.f23
     have f23 := HLX.out.frozen 23
     have HLP := Lib.hid (HLX.out.put1 23 (.string PW) { zp 1 with clean := bc, hp := true, hu := false, w := { W0 with ps := WL, t := ⟨#[]⟩, b := WB }, keep := K, ps := L, cl := C, pw := PW } rfl rfl rfl rfl rfl)
     go_wp2_with fail
     have HEE := HE.out true false _ _ _ _ _ _ HWN.out rfl HIP.out
     exact bodyPost_end (v := .tuple #[]) (by simp [results, Tryz.results117]) rfl ⟨rfl, _, _, by rw [HEE]; exact HLP.out, by rw [HEE]; exact fun _ => rfl⟩
    | false =>
     go_wp2_with fail
     have HEE := HE.out false false _ _ _ _ _ _ HWN.out rfl rfl
     exact bodyPost_end (v := .tuple #[]) (by simp [results, Tryz.results117]) rfl ⟨rfl, _, _, by rw [HEE]; exact HLU.out, by rw [HEE]; exact fun _ => rfl⟩
  ·obtain ⟨zne, zne2⟩ := size_facts hz
   have hs78 := HX2.out (fun e => hz (by rw [e]; rfl))
   subst hs78
   clear hz HX HX2
   go_wp2_with fail
   refine (H9.out _ HL12.out.rd).mono ?_
   rintro r w9 ⟨rfl, k1, k2⟩
   have HL14 := Lib.hid (HL12.out.bar k2 k1)
   clear k1 k2 HL11 HL12 H9 d17 f17 zne zne2
   have d18 := HL14.out.f18
   have f18 := HL14.out.frozen 18
   have HLW0 := Lib.hid (HL14.out.put1 18 (.string WB) { zp 1 with clean := bc, hp := bp, hu := bu, w := { W0 with ps := WL, t := WT, b := WB }, keep := K, ps := L, cl := C } rfl rfl rfl rfl rfl)
   go_upto_region 11 with fail
   clear d18 f18 HL14
   generalize World.setCell _ _ _ = W9 at HLW0 ⊢
   have HLW := HLW0
   clear HLW0
   have d20 := HLW.out.f20
   cases bu with
   | true =>
    obtain ⟨U, hU⟩ : ∃ U, (s9.run (longR true)).val ⟨#[]⟩ = U := ⟨_, rfl⟩
    obtain ⟨s10, hs10⟩ : ∃ s, (s9.run (longR true)).st = s := ⟨_, rfl⟩
    have HT0 := fun (W : World) (hr : RdOf true W g s9) => words_st g s9 W hr
    rw [hU, hs10] at HT0
    have HIU : Hid (ifR true true s9 = (U, s10)) := by show _ = _; rw [← hU, ← hs10]; rfl
    have HT := Lib.hid HT0
    clear hU hs10 HT0
    go_wp2_with fail
    refine (HT.out _ HLW.out.rd).mono ?_
    rintro r wu ⟨rfl, k1, k2⟩
    have HLX := Lib.hid (HLW.out.bar k2 k1)
    clear k1 k2 HLW
    have d21 := HLX.out.f21
    have f21 := HLX.out.frozen 21
    have HLU := Lib.hid (HLX.out.put1 21 (.string U) { zp 1 with clean := bc, hp := bp, hu := true, w := { W0 with ps := WL, t := WT, b := WB }, keep := K, ps := L, cl := C, u := U } rfl rfl rfl rfl rfl)
    go_upto_region 13 with fail
    clear HLX d21 f21
    generalize hWu : World.setCell _ _ _ = Wu at HLU ⊢
    have d22 := HLU.out.f22
    cases bp with
    | true =>
     obtain ⟨PW, hPW⟩ : ∃ U, (s10.run (longR false)).val ⟨#[]⟩ = U := ⟨_, rfl⟩
     obtain ⟨s11, hs11⟩ : ∃ s, (s10.run (longR false)).st = s := ⟨_, rfl⟩
     have HT0 := fun (W : World) (hr : RdOf true W g s10) => bin_next g s10 W hr
     rw [hPW, hs11] at HT0
     have HIP : Hid (ifR true false s10 = (PW, s11)) := by show _ = _; rw [← hPW, ← hs11]; rfl
     have HT := Lib.hid HT0
     clear hPW hs11 HT0
     go_wp2_with fail
     refine (HT.out _ HLU.out.rd).mono ?_
     rintro r wp ⟨rfl, k1, k2⟩
     have HLX := Lib.hid (HLU.out.bar k2 k1)
     clear k1 k2 HLU d22
     have d23 := HLX.out.f23
     have f23 := HLX.out.frozen 23
     have HLP := Lib.hid (HLX.out.put1 23 (.string PW) { zp 1 with clean := bc, hp := true, hu := true, w := { W0 with ps := WL, t := WT, b := WB }, keep := K, ps := L, cl := C, u := U, pw := PW } rfl rfl rfl rfl rfl)
     go_wp2_with fail
     have HEE := HE.out true true _ _ _ _ _ _ HWN.out HIU.out HIP.out
     exact bodyPost_end (v := .tuple #[]) (by simp [results, Tryz.results117]) rfl ⟨rfl, _, _, by rw [HEE]; exact HLP.out, by rw [HEE]; exact fun _ => rfl⟩
    | false =>
     go_wp2_with fail
     have HEE := HE.out false true _ _ _ _ _ _ HWN.out HIU.out rfl
     exact bodyPost_end (v := .tuple #[]) (by simp [results, Tryz.results117]) rfl ⟨rfl, _, _, by rw [HEE]; exact HLU.out, by rw [HEE]; exact fun _ => rfl⟩
   | false =>
    go_upto_region 13 with fail
    have HLU := HLW
    clear HLW
    skip
    have d22 := HLU.out.f22
    cases bp with
    | true =>
     obtain ⟨PW, hPW⟩ : ∃ U, (s9.run (longR false)).val ⟨#[]⟩ = U := ⟨_, rfl⟩
     obtain ⟨s11, hs11⟩ : ∃ s, (s9.run (longR false)).st = s := ⟨_, rfl⟩
     have HT0 := fun (W : World) (hr : RdOf true W g s9) => bin_next g s9 W hr
     rw [hPW, hs11] at HT0
     have HIP : Hid (ifR true false s9 = (PW, s11)) := by show _ = _; rw [← hPW, ← hs11]; rfl
     have HT := Lib.hid HT0
     clear hPW hs11 HT0
     go_wp2_with fail
     refine (HT.out _ HLU.out.rd).mono ?_
     rintro r wp ⟨rfl, k1, k2⟩
     have HLX := Lib.hid (HLU.out.bar k2 k1)
     clear k1 k2 HLU d22
     have d23 := HLX.out.f23
     have f23 := HLX.out.frozen 23
     have HLP := Lib.hid (HLX.out.put1 23 (.string PW) { zp 1 with clean := bc, hp := true, hu := false, w := { W0 with ps := WL, t := WT, b := WB }, keep := K, ps := L, cl := C, pw := PW } rfl rfl rfl rfl rfl)
     go_wp2_with fail
     have HEE := HE.out true false _ _ _ _ _ _ HWN.out rfl HIP.out
     exact bodyPost_end (v := .tuple #[]) (by simp [results, Tryz.results117]) rfl ⟨rfl, _, _, by rw [HEE]; exact HLP.out, by rw [HEE]; exact fun _ => rfl⟩
    | false =>
     go_wp2_with fail
     have HEE := HE.out false false _ _ _ _ _ _ HWN.out rfl rfl
     exact bodyPost_end (v := .tuple #[]) (by simp [results, Tryz.results117]) rfl ⟨rfl, _, _, by rw [HEE]; exact HLU.out, by rw [HEE]; exact fun _ => rfl⟩
theorem parts_1 (B g h : Nat) (w0 : World) (st : St) (a : Ad) (w : World) (hl : Live true B w0 g h st (zp 1) a w) :
  Calls Tryz.prog 102 #[.pointer (some ⟨g, 0, none⟩), .pointer (some ⟨h, 0, none⟩)] w (Done true B w0 g h (connectS (zp 1) st)) := by
 have dk : w.cell? ⟨h, 0, none⟩ = some (.int .i64 1) := hl.f0
 have HR := Lib.hid (connect_is B g h w0 st a w hl)
 clear hl
 go_enter Tryz.func102, Tryz.ntmps102
 go_wp2_with fail
 refine HR.out.mono ?_
 rintro r w2 ⟨rfl, p', a', k1, k2⟩
 have K1 := Lib.hid k1
 have K2 := Lib.hid k2
 clear k1 k2 dk
 go_wp2_with fail
 exact bodyPost_end (v := .tuple #[]) (by simp [results, Tryz.results102]) rfl ⟨rfl, p', a', K1.out, K2.out⟩
open Go.RowKit Go.Lib Prp Pkt Vbi
def GivesFilters (R : Res (List Fl)) (g : Nat) (w : World) (r : Ending) (w' : World) : Prop :=
 ∃ L A c, r = .returned (.slice A (List.length L) c) ∧ L.length ≤ c ∧ New w.heap.size A ∧ FilsAt w' w'.heap.size A L ∧ RdOf true w' g R.st ∧ Bar g w w' ∧ (R.st.isBad = false → L = R.val [])
theorem many_fil (G g : Nat) (sub : Bool) (st : St) (w : World) (hG : NextFil G g sub) (hcf : ∀ W : World, (callFunc G #[.pointer (some ⟨g, 0, none⟩)]).run Tryz.prog W = .ok (.enter G #[.pointer (some ⟨g, 0, none⟩)]) W) (hr : RdOf true w g st) :
  Calls Tryz.prog 125 #[.pointer (some ⟨g, 0, none⟩), .func (.func G) #[.pointer (some ⟨g, 0, none⟩)] #[]] w (GivesFilters (st.run (manyR (filterR sub) 5 [])) g w) := by
 obtain ⟨i0, hi, hz0, hz1, hz2⟩ := info_parts info_fil
 have HS := Lib.hid (goes_start (filterR sub) st)
 obtain ⟨F, hF⟩ : ∃ F, st.run (manyR (filterR sub) 5 []) = F := ⟨_, rfl⟩
 rw [hF] at HS ⊢
 clear hF
 have HGG := Lib.hid hG
 have hgl := hr.lt
 have HR := Lib.hid hr
 clear hr hG
 go_enter Tryz.func125, Tryz.ntmps125
 go_wp2_with fail
 go_loopw [5] (fun m wr => ∃ (l : List Fl) (A : Option Addr) (c : Nat) (sc : St), l.length ≤ 4 ∧ m = .slice A l.length c ∧ wr.ownsRow w.heap.size 75 5 (.slice A l.length c) l.length (flatF l) ∧ RdOf true wr g sc ∧ Bar g w wr ∧ Goes (filterR sub) F l sc) (fun m _ => 5 - sliceLen m)
 case atStart => exact ⟨[], none, 0, st, Nat.zero_le _, rfl, World.ownsRow_nil _ _ _ _, HR.out, Bar.refl _ _, HS.out⟩
 case round =>
  obtain ⟨l, A, c, sc, hl4, rfl, hown, hrd, hbar, hgo⟩ := hrel
  have c0 := hrd.at0
  have hsz := hbar.size
  obtain ⟨s, hs⟩ : ∃ s, sc.rest = s := ⟨_, rfl⟩
  rw [hs] at c0
  have HO := Lib.hid hown
  have HD := Lib.hid hrd
  have HB := Lib.hid hbar
  have HG := Lib.hid hgo
  clear hown hrd hbar hgo HS HR
  by_cases h0 : s.size = 0
  ·obtain rfl : s = ByteArray.empty := ByteArray.size_eq_zero_iff.1 h0
   by_cases hl0 : l.length = 0
   ·obtain rfl : l = [] := List.eq_nil_of_length_eq_zero hl0
    have HF : Hid (F.st = sc.want false 9) := by
     show _ = _
     cases sc with
     | ok s' =>
      have hg : F = manyR (filterR sub) (4 + 1) [] s' := HG.out
      have hs' : s' = ByteArray.empty := hs
      rw [hg, many_stop (by rw [hs']; rfl)]
      rfl
     | bad e => have hg : F = .bad e := HG.out; rw [hg]; rfl
    have HX := Lib.hid (fun (W : World) (h : RdOf true W g sc) => fail_st g sc 9 W (by decide) h)
    clear hs h0 hl0
    go_wp2_with fail
    refine (HX.out _ HD.out).mono ?_
    rintro r w1 ⟨rfl, k1, k2⟩
    have K1 := Lib.hid k1
    have K2 := Lib.hid k2
    clear k1 k2 c0
    go_wp2_with fail
    go_ret
    refine ⟨[], A, c, rfl, Nat.zero_le _, own_new HO.out, .inl rfl, by rw [HF.out]; exact K1.out, HB.out.trans K2.out, fun hb => ?_⟩
    rw [HF.out] at hb
    cases sc <;> cases hb
   ·have HF : Hid (F.st = sc ∧ (F.st.isBad = false → l = F.val [])) := by
     show _ ∧ _
     cases sc with
     | ok s' =>
      have hg : F = manyR (filterR sub) (5 - l.length) l s' := HG.out
      have hs' : s' = ByteArray.empty := hs
      obtain ⟨f, hf⟩ : ∃ f, 5 - l.length = f + 1 := ⟨4 - l.length, by omega⟩
      rw [hf, many_stop (by rw [hs']; rfl), if_neg hl0] at hg
      rw [hg]
      exact ⟨rfl, fun _ => rfl⟩
     | bad e =>
      have hg : F = .bad e := HG.out
      rw [hg]
      exact ⟨rfl, fun hb => by cases hb⟩
    have hlI : ((l.length : Int) == 0) = false := ne_false (by omega)
    clear hs h0
    go_wp2_with fail
    go_ret
    exact ⟨l, A, c, rfl, own_room HO.out, own_new HO.out, FilsAt.of_own HO.out, by rw [HF.out.1]; exact HD.out, HB.out, HF.out.2⟩
  ·obtain ⟨hne, hne2⟩ := size_facts h0
   obtain ⟨s', rfl⟩ : ∃ s', sc = .ok s' := by
    cases sc with
    | ok s' => exact ⟨s', rfl⟩
    | bad e => exact absurd (by rw [← hs]; rfl) h0
   obtain rfl : s' = s := hs
   have HG2 : Hid (F = manyR (filterR sub) (5 - l.length) l s') := HG.out
   clear HG
   obtain ⟨f, hf⟩ : ∃ f, 5 - l.length = f + 1 := ⟨4 - l.length, by omega⟩
   by_cases hl : l.length = 4
   ·have HF : Hid (F = .bad 2) := by show _ = _; rw [HG2.out, hf, many_full h0 hl]
    have HX := Lib.hid (fun (W : World) (h : RdOf true W g (.ok s')) => fail_st g (.ok s') 2 W (by decide) h)
    have hlI : ((l.length : Int) == 4) = true := beq_iff_eq.2 (by omega)
    have hlI0 : ((l.length : Int) == 0) = false := ne_false (by omega)
    go_wp2_with fail
    refine (HX.out _ HD.out).mono ?_
    rintro r w1 ⟨rfl, k1, k2⟩
    have K1 := Lib.hid k1
    have K2 := Lib.hid k2
    clear k1 k2 c0
    go_wp2_with fail
    go_ret
    refine ⟨l, A, c, by rw [hl]; rfl, own_room HO.out, own_new HO.out, (fils_bar (FilsAt.of_own HO.out) (Nat.le_refl _) ((own_new HO.out).off hgl) K2.out).mono K2.out.size, by rw [HF.out]; exact K1.out, HB.out.trans K2.out, fun hb => ?_⟩
    rw [HF.out] at hb
    cases hb
   ·obtain ⟨v, s1, hv⟩ : ∃ v s1, filterS sub (.ok s') = (v, s1) := ⟨_, _, rfl⟩
    have HO1 := HGG.out (.ok s') wr HD.out
    rw [hv] at HO1
    unfold fagg at HO1
    have HC := Lib.hid HO1
    have HG3 : Hid (Goes (filterR sub) F (l ++ [v]) s1) := by
     cases s1 with
     | ok s1 =>
      have hrun : filterR sub s' = .ok v s1 := by unfold filterR; rw [hv]
      show F = manyR (filterR sub) (5 - (l ++ [v]).length) (l ++ [v]) s1
      rw [HG2.out, hf, many_step h0 hl hrun, List.length_append]
      congr 1
      simp
      omega
     | bad e =>
      have hrun : filterR sub s' = .bad e := by unfold filterR; rw [hv]
      show F = .bad e
      rw [HG2.out, hf, many_err h0 hl hrun]
    have hlI : ((l.length : Int) == 4) = false := ne_false (by omega)
    clear HO1 hv
    go_wp2_with fail
    refine HC.out.mono ?_
    rintro r w1 ⟨rfl, k1, k2⟩
    have K1 := Lib.hid k1
    have K2 := Lib.hid k2
    clear k1 k2 c0
    have HO2 := Lib.hid (own_bar HO.out K2.out hgl)
    have hz1' := K2.out.size
    have hlen : Hid ((l ++ [v]).length = l.length + 1) := by show _ = _; simp
    go_wp2_with (at_builtin; refine wpList_append_own _ rfl _ _ 25 rfl w.heap.size 75 i0 (.agg #[.string ⟨#[]⟩, .int .i64 0, .bool false, .bool false, .int .i64 0]) 5 40 Tryz.underlying25 hi hz0 hz1 hz2 rfl (by decide) _ _ _ rfl (HO2.out.alloc _) ⟨w1.heap.size, 0, none⟩ 1 1 (fcells v) rfl rfl ?c1 ?c2 ?c3 ?c4 ?c5 ?_)
    case c1 => exact fun j u hu => cells_new _ _ _ j u hu
    case c2 => exact one_fcells _
    case c3 => unfold maxLen; omega
    case c4 => omega
    case c5 => simp; omega
    intro v' w2 hown' hgrow _
    have hbl := below_alloc_grown (by omega : w.heap.size ≤ w1.heap.size) HO2.out hgrow
    have HOW : Hid (w2.ownsRow w.heap.size 75 5 v' (l ++ [v]).length (flatF (l ++ [v]))) := by
     show World.ownsRow _ _ _ _ _ _ _
     rw [hlen.out, flatF_snoc]
     exact hown'
    have HBW : Hid (Below w.heap.size w1 w2) := hbl
    clear hown' hgrow hbl HO HO2
    obtain ⟨A', c', hv⟩ := ownF_slice HOW.out
    subst hv
    go_wp2
    go_roundw
    case rel => exact ⟨l ++ [v], A', c', s1, by rw [hlen.out]; omega, rfl, HOW.out, K1.out.then_ HBW.out hgl, (HB.out.trans K2.out).then_ HBW.out, HG3.out⟩
    case measure => rw [hlen.out]; simp [sliceLen]; omega
theorem parts_8 (B g h : Nat) (w0 : World) (st : St) (p : Pk) (a : Ad) (w : World) (hk : p.kind = 8) (hl : Live true B w0 g h st p a w) :
  Calls Tryz.prog 102 #[.pointer (some ⟨g, 0, none⟩), .pointer (some ⟨h, 0, none⟩)] w (Done true B w0 g h (askS true p st)) := by
 have dk := hl.f0
 have HO0 := number_next g st w hl.rd
 obtain ⟨n0, hn0⟩ : ∃ n, (st.run numberR).val 0 = n := ⟨_, rfl⟩
 obtain ⟨s1, hs1⟩ : ∃ s, (st.run numberR).st = s := ⟨_, rfl⟩
 rw [hs1, hn0] at HO0
 obtain ⟨L, hL⟩ : ∃ L, (s1.run (propsR p.kind)).val [] = L := ⟨_, rfl⟩
 obtain ⟨s2, hs2⟩ : ∃ s, (s1.run (propsR p.kind)).st = s := ⟨_, rfl⟩
 have H20 := fun (W : World) (hr : RdOf true W g s1) => pprops_st p.kind g s1 W hr
 rw [hL, hs2] at H20
 obtain ⟨F, hF⟩ : ∃ F, s2.run (manyR (filterR true) 5 []) = F := ⟨_, rfl⟩
 have H30 := fun (W : World) (hr : RdOf true W g s2) => many_fil 126 g true s2 W (filter_is g) (fun W => by go_simp) hr
 rw [hF] at H30
 have HE : Hid (askS true p st = ({ p with id := n0, ps := L, fs := F.val [] }, F.st)) := by
  subst hF hs2 hL hs1 hn0
  rfl
 have HO := Lib.hid HO0
 have H2 := Lib.hid H20
 have H3 := Lib.hid H30
 have HL := Lib.hid hl
 clear hl HO0 H20 H30 hn0 hs1 hL hs2 hF
 have hmf : ∀ (fn : Fn) (first cap : Array Value) (w : World), (Instr.makeFunc fn first cap).run Tryz.prog w = .ok (.func fn first cap) w := fun _ _ _ _ => rfl
 ·skip
  rw [hk] at H2
  rw [hk] at dk
  have HK := Lib.hid hk
  clear hk
  go_enter Tryz.func102, Tryz.ntmps102
  go_wp2_with fail
  refine HO.out.mono ?_
  rintro r w1 ⟨rfl, k1, k2⟩
  have HL1 := Lib.hid (HL.out.bar k2 k1)
  clear k1 k2 HO HL dk
  have d0 := HL1.out.f0
  rw [HK.out] at d0
  have d4 := HL1.out.f4
  have f4 := HL1.out.frozen 4
  have HL2 := Lib.hid (HL1.out.put1 4 (.int .i64 n0) { p with id := n0 } rfl rfl rfl rfl rfl)
  go_wp2_with fail
  refine (H2.out _ HL2.out.rd).mono ?_
  rintro r w2 ⟨A, c, rfl, k1, k2, k3, k4, k5⟩
  have HL3 := Lib.hid (HL2.out.bar k5 k4)
  have HN := Lib.hid (HL2.out.off k2)
  have HA := Lib.hid k3
  have HC := Lib.hid k1
  clear k1 k2 k3 k4 k5 d0 d4 f4 HL1 HL2 H2
  have d24 := HL3.out.f24
  have f24 := HL3.out.frozen 24
  have HL4 := Lib.hid (HL3.out.props HA.out HN.out HC.out)
  go_wp2_with fail
  refine (H3.out _ HL4.out.rd).mono ?_
  rintro r w3 ⟨M, A2, c2, rfl, k1, k2, k3, k4, k5, k6⟩
  have HL5 := Lib.hid (HL4.out.bar k5 k4)
  have HN2 := Lib.hid (HL4.out.off k2)
  have HA2 := Lib.hid k3
  have HM := Lib.hid k6
  have HC2 := Lib.hid k1
  clear k1 k2 k3 k4 k5 k6 d24 f24 HL3 HL4 H3
  have d10 := HL5.out.f10
  have f10 := HL5.out.frozen 10
  go_wp2_with fail
  refine bodyPost_end (v := .tuple #[]) (by simp [results, Tryz.results102]) rfl ⟨rfl, { p with id := n0, ps := L, fs := M }, { a with pa := A, pc := c, fa := A2, fc := c2 }, ?_, ?_⟩
  ·rw [HE.out]; exact HL5.out.filters HA2.out HN2.out HC2.out
  ·rw [HE.out]; exact fun hb => by rw [HM.out hb]
theorem parts_10 (B g h : Nat) (w0 : World) (st : St) (p : Pk) (a : Ad) (w : World) (hk : p.kind = 10) (hl : Live true B w0 g h st p a w) :
  Calls Tryz.prog 102 #[.pointer (some ⟨g, 0, none⟩), .pointer (some ⟨h, 0, none⟩)] w (Done true B w0 g h (askS false p st)) := by
 have dk := hl.f0
 have HO0 := number_next g st w hl.rd
 obtain ⟨n0, hn0⟩ : ∃ n, (st.run numberR).val 0 = n := ⟨_, rfl⟩
 obtain ⟨s1, hs1⟩ : ∃ s, (st.run numberR).st = s := ⟨_, rfl⟩
 rw [hs1, hn0] at HO0
 obtain ⟨L, hL⟩ : ∃ L, (s1.run (propsR p.kind)).val [] = L := ⟨_, rfl⟩
 obtain ⟨s2, hs2⟩ : ∃ s, (s1.run (propsR p.kind)).st = s := ⟨_, rfl⟩
 have H20 := fun (W : World) (hr : RdOf true W g s1) => pprops_st p.kind g s1 W hr
 rw [hL, hs2] at H20
 obtain ⟨F, hF⟩ : ∃ F, s2.run (manyR (filterR false) 5 []) = F := ⟨_, rfl⟩
 have H30 := fun (W : World) (hr : RdOf true W g s2) => many_fil 127 g false s2 W (topic_is g) (fun W => by go_simp) hr
 rw [hF] at H30
 have HE : Hid (askS false p st = ({ p with id := n0, ps := L, fs := F.val [] }, F.st)) := by
  subst hF hs2 hL hs1 hn0
  rfl
 have HO := Lib.hid HO0
 have H2 := Lib.hid H20
 have H3 := Lib.hid H30
 have HL := Lib.hid hl
 clear hl HO0 H20 H30 hn0 hs1 hL hs2 hF
 have hmf : ∀ (fn : Fn) (first cap : Array Value) (w : World), (Instr.makeFunc fn first cap).run Tryz.prog w = .ok (.func fn first cap) w := fun _ _ _ _ => rfl
 ·skip
  rw [hk] at H2
  rw [hk] at dk
  have HK := Lib.hid hk
  clear hk
  go_enter Tryz.func102, Tryz.ntmps102
  go_wp2_with fail
  refine HO.out.mono ?_
  rintro r w1 ⟨rfl, k1, k2⟩
  have HL1 := Lib.hid (HL.out.bar k2 k1)
  clear k1 k2 HO HL dk
  have d0 := HL1.out.f0
  rw [HK.out] at d0
  have d4 := HL1.out.f4
  have f4 := HL1.out.frozen 4
  have HL2 := Lib.hid (HL1.out.put1 4 (.int .i64 n0) { p with id := n0 } rfl rfl rfl rfl rfl)
  go_wp2_with fail
  refine (H2.out _ HL2.out.rd).mono ?_
  rintro r w2 ⟨A, c, rfl, k1, k2, k3, k4, k5⟩
  have HL3 := Lib.hid (HL2.out.bar k5 k4)
  have HN := Lib.hid (HL2.out.off k2)
  have HA := Lib.hid k3
  have HC := Lib.hid k1
  clear k1 k2 k3 k4 k5 d0 d4 f4 HL1 HL2 H2
  have d24 := HL3.out.f24
  have f24 := HL3.out.frozen 24
  have HL4 := Lib.hid (HL3.out.props HA.out HN.out HC.out)
  go_wp2_with fail
  refine (H3.out _ HL4.out.rd).mono ?_
  rintro r w3 ⟨M, A2, c2, rfl, k1, k2, k3, k4, k5, k6⟩
  have HL5 := Lib.hid (HL4.out.bar k5 k4)
  have HN2 := Lib.hid (HL4.out.off k2)
  have HA2 := Lib.hid k3
  have HM := Lib.hid k6
  have HC2 := Lib.hid k1
  clear k1 k2 k3 k4 k5 k6 d24 f24 HL3 HL4 H3
  have d10 := HL5.out.f10
  have f10 := HL5.out.frozen 10
  go_wp2_with fail
  refine bodyPost_end (v := .tuple #[]) (by simp [results, Tryz.results102]) rfl ⟨rfl, { p with id := n0, ps := L, fs := M }, { a with pa := A, pc := c, fa := A2, fc := c2 }, ?_, ?_⟩
  ·rw [HE.out]; exact HL5.out.filters HA2.out HN2.out HC2.out
  ·rw [HE.out]; exact fun hb => by rw [HM.out hb]
open Go.RowKit Go.Lib Prp Pkt Vbi
theorem headP_kind (c : Int) : (headP c).kind = c / 16 := by
 unfold headP
 by_cases h : c / 16 = 3
 ·rw [if_pos h, h]; rfl
 ·rw [if_neg h]; rfl
theorem parts_is (B g h : Nat) (w0 : World) (st : St) (c : Int) (w : World) (h0 : 0 ≤ c) (h1 : c ≤ 255) (hl : Live true B w0 g h st (headP c) za w) :
  Calls Tryz.prog 102 #[.pointer (some ⟨g, 0, none⟩), .pointer (some ⟨h, 0, none⟩)] w (Done true B w0 g h (partsS (headP c) st)) := by
 have hk := headP_kind c
 unfold partsS
 by_cases k1 : (headP c).kind = 1
 ·rw [if_pos k1]
  have e : headP c = zp 1 := by rw [headP_k (by omega), ← hk, k1]
  rw [e] at hl ⊢
  exact parts_1 B g h w0 st za w hl
 rw [if_neg k1]
 by_cases k2 : (headP c).kind = 2
 ·rw [if_pos k2]; exact pparts_2 B g h w0 st _ za w k2 hl
 rw [if_neg k2]
 by_cases k3 : (headP c).kind = 3
 ·rw [if_pos k3]; exact parts_3 B g h w0 st _ za w k3 hl
 rw [if_neg k3]
 by_cases k4 : (headP c).kind = 4 ∨ (headP c).kind = 5 ∨ (headP c).kind = 6 ∨ (headP c).kind = 7
 ·rw [if_pos k4]; exact parts_id B g h w0 st _ za w k4 hl
 rw [if_neg k4]
 by_cases k8 : (headP c).kind = 8
 ·rw [if_pos k8]; exact parts_8 B g h w0 st _ za w k8 hl
 rw [if_neg k8]
 by_cases k10 : (headP c).kind = 10
 ·rw [if_pos k10]; exact parts_10 B g h w0 st _ za w k10 hl
 rw [if_neg k10]
 by_cases k9 : (headP c).kind = 9 ∨ (headP c).kind = 11
 ·rw [if_pos k9]; exact parts_codes B g h w0 st _ za w k9 hl
 rw [if_neg k9]
 by_cases k14 : (headP c).kind = 14 ∨ (headP c).kind = 15
 ·rw [if_pos k14]; exact parts_14 B g h w0 st _ za w k14 hl
 rw [if_neg k14]
 exact parts_none B g h w0 st _ za w (by omega) hl
theorem PkNew.mono {B B' : Nat} {a : Ad} (h : PkNew B a) (hB : B' ≤ B) : PkNew B' a := ⟨h.ca.mono hB, h.fa.mono hB, h.wa.mono hB, h.pa.mono hB⟩
def NoRows (p : Pk) : Prop := p.cs = [] ∧ p.fs = [] ∧ p.w.ps = [] ∧ p.ps = []
theorem PkAt.zero' (w : World) (B : Nat) (p : Pk) (h : NoRows p) : PkAt w B p za := ⟨.inl h.1, .inl h.2.1, .inl h.2.2.1, .inl h.2.2.2⟩
theorem PkCap.zero' (p : Pk) (h : NoRows p) : PkCap p za := ⟨by rw [h.1]; exact Nat.le_refl _, by rw [h.2.1]; exact Nat.le_refl _, by rw [h.2.2.1]; exact Nat.le_refl _, by rw [h.2.2.2]; exact Nat.le_refl _⟩
theorem head_rows (c : Int) : NoRows (headP c) := by
 unfold headP
 split <;> exact ⟨rfl, rfl, rfl, rfl⟩
@[irreducible] def EndAt (x : Bool) (w : World) (k0 g h : Nat) (st : St) (p : Pk) (a : Ad) (cs : Array Value) (W : World) : Prop :=
 RdOf x W g st ∧ Box W h (pkArr p a) ∧ PkAt W W.heap.size p a ∧ Box W k0 cs ∧ cs.size = 25 ∧ Below w.heap.size w W ∧ w.heap.size ≤ k0 ∧ k0 ≠ g ∧ k0 ≠ h ∧ PkOff k0 a
section
variable {x : Bool} {w W W' : World} {k0 g h : Nat} {st : St} {p : Pk} {a : Ad} {cs : Array Value}
theorem EndAt.mk (k : RdOf x W g st ∧ Box W h (pkArr p a) ∧ PkAt W W.heap.size p a ∧ Box W k0 cs ∧ cs.size = 25 ∧ Below w.heap.size w W ∧ w.heap.size ≤ k0 ∧ k0 ≠ g ∧ k0 ≠ h ∧ PkOff k0 a) : EndAt x w k0 g h st p a cs W := by unfold EndAt; exact k
theorem EndAt.out (k : EndAt x w k0 g h st p a cs W) : RdOf x W g st ∧ Box W h (pkArr p a) ∧ PkAt W W.heap.size p a ∧ Box W k0 cs ∧ cs.size = 25 ∧ Below w.heap.size w W ∧ w.heap.size ≤ k0 ∧ k0 ≠ g ∧ k0 ≠ h ∧ PkOff k0 a := by unfold EndAt at k; exact k
theorem EndAt.drew (k : EndAt x w k0 g h st p a cs W) : EndAt x w k0 g h st p a cs (W.drewN 1) := by
 obtain ⟨h1, h2, h3, h4, h5, h6, h7, h8, h9, h10⟩ := k.out
 exact .mk ⟨h1.below (below_drewN (Below.refl _ _) 1), h2.drewN 1, h3.below (below_drewN (Below.refl _ _) 1), h4.drewN 1, h5, below_drewN h6 1, h7, h8, h9, h10⟩
theorem EndAt.row (k : EndAt x w k0 g h st p a cs W) : EndAt x w k0 g h st p a (pkArr p a) (W.setRow k0 (pkArr p a)) := by
 obtain ⟨h1, h2, h3, h4, h5, h6, h7, h8, h9, h10⟩ := k.out
 have hb := Bar.row k0 W (pkArr p a)
 refine .mk ⟨h1.map fun _ _ r => hb.box r h8.symm, hb.box h2 h9.symm, pk_bar h3 h10 hb, h4.row _, rfl, hb.below h6 h7 ?_, h7, h8, h9, h10⟩
 have := h4.lt
 omega
theorem EndAt.err (k : EndAt x w k0 g h st p a cs W) : W.cell? ⟨g, 1, none⟩ = some (.int .i64 st.err) := by
 obtain ⟨s, hs, _⟩ := k.out.1.rd
 exact hs.cell 1
end
def GivesBody (R : Pk × St) (w : World) (r : Ending) (w' : World) : Prop :=
 ∃ p a, r = .returned (.tuple #[.agg (pkArr p a), .int .i64 R.2.err]) ∧ PkAt w' w'.heap.size p a ∧ PkCap p a ∧ PkNew w.heap.size a ∧ Below w.heap.size w w' ∧ R.2.Wf ∧ (R.2.isBad = false → p = R.1)
theorem packAll_is (c : Int) (s : ByteArray) (w : World) (h0 : 0 ≤ c) (h1 : c ≤ 255) (hs : s.size ≤ 268435456) :
  Calls Tryz.prog 82 #[.int .i64 c, .string s] w (GivesBody (bodyS c s) w) := by
 obtain ⟨so, hso⟩ : ∃ so, (if headB c = true then St.ok s else .bad 8) = so := ⟨_, rfl⟩
 have HS := Lib.hid (fun (g : Nat) (W : World) (hr : RdOf true W g (.ok s)) => sent_is g c s W h0 h1 hr)
 rw [hso] at HS
 have HP := Lib.hid (fun (B g h : Nat) (w0 W : World) (hl : Live true B w0 g h so (headP c) za W) => parts_is B g h w0 so c W h0 h1 hl)
 obtain ⟨R, hR⟩ : ∃ R, partsS (headP c) so = R := ⟨_, rfl⟩
 rw [hR] at HP
 have HE : Hid (bodyS c s = (R.1, R.2.want (decide (R.2.rest.size = 0)) 8)) := by subst hR hso; rfl
 have HZ0 := head_rows c
 obtain ⟨p0, hp0⟩ : ∃ p, headP c = p := ⟨_, rfl⟩
 rw [hp0] at HS HP HZ0
 have HZ := Lib.hid HZ0
 clear hso hR hp0 HZ0
 have hb0 := Box.new w 30 (pkArr (zp 0) za)
 have ha := (Below.refl w.heap.size w).alloc (Nat.le_refl _) (.cells (pkArr (zp 0) za) 30)
 obtain ⟨W1, hW⟩ : ∃ W1, w.alloc (.cells (pkArr (zp 0) za) 30) = W1 := ⟨_, rfl⟩
 rw [hW] at hb0 ha
 simp only [pkArr, zp, za, zw, List.length_nil] at hW
 have HW := Lib.hid hW
 have HK0 := Lib.hid hb0
 have HA := Lib.hid ha
 clear hW hb0 ha
 go_enter Tryz.func82, Tryz.ntmps82
 go_upto_region 1 with fail
 rw [HW.out]
 clear HW
 obtain ⟨k0, hk0⟩ : ∃ k, w.heap.size = k := ⟨_, rfl⟩
 have HKK := Lib.hid hk0
 rw [hk0] at HK0 ⊢
 clear hk0
 have hkl := HK0.out.lt
 go_upto_region 2 with fail
 have hr2 : RdOf true (W1.alloc (.cells #[.string s, .int .i64 0] 147)) W1.heap.size (.ok s) := ⟨Box.new W1 147 #[.string s, .int .i64 0], hs⟩
 have ha2 := (Below.refl W1.heap.size W1).alloc (Nat.le_refl _) (.cells #[.string s, .int .i64 0] 147)
 obtain ⟨g, hg⟩ : ∃ g, W1.heap.size = g := ⟨_, rfl⟩
 have HG := Lib.hid hg
 rw [hg] at hr2 ha2 ⊢
 rw [hg] at hkl
 clear hg
 have HR2 := Lib.hid hr2
 have HA2 := Lib.hid ha2
 clear hr2 ha2
 generalize W1.alloc _ = W2 at HR2 HA2 ⊢
 have hgl := HR2.out.lt
 go_wp2_with fail
 refine (HS.out g _ HR2.out).mono ?_
 rintro r w3 ⟨rfl, q1, q2⟩
 have hb0 := Box.new w3 30 (pkArr (zp 0) za)
 have ha := (Below.refl w3.heap.size w3).alloc (Nat.le_refl _) (.cells (pkArr (zp 0) za) 30)
 obtain ⟨W4, hW⟩ : ∃ W4, w3.alloc (.cells (pkArr (zp 0) za) 30) = W4 := ⟨_, rfl⟩
 rw [hW] at hb0 ha
 simp only [pkArr, zp, za, zw, List.length_nil] at hW
 have HW := Lib.hid hW
 have HB4 := Lib.hid hb0
 have hz3 := q2.size
 have hb3 := (Bar.below HA2.out q2 (Nat.le_refl g) (by omega)).alloc (by omega) (.cells (pkArr (zp 0) za) 30)
 have hl3 : g < w3.heap.size := by omega
 have hr4 := q1.below ha
 obtain ⟨h, hh⟩ : ∃ h, w3.heap.size = h := ⟨_, rfl⟩
 rw [hh] at HB4 hl3
 have hgh : g ≠ h := by omega
 have hW4 : w3.alloc (.cells (pkArr (zp 0) za) 30) = W4 := by simp only [pkArr, zp, za, zw, List.length_nil]; exact hW
 rw [hW4] at hb3
 have hrow := Bar.row h W4 (pkArr p0 za)
 have HL5 := Lib.hid (Live.mk (x := true) (B := g) (w0 := W1) (g := g) (h := h) (st := so) (p := p0) (a := za) ⟨hrow.below hb3 (by omega) (by have := ha.size; omega), Nat.le_refl _, by omega, hgh, hr4.map fun _ _ r => hrow.box r hgh, HB4.out.row _, PkAt.zero' _ _ p0 HZ.out, .zero g, .zero h, PkCap.zero' p0 HZ.out, .zero g⟩)
 clear hW hW4 hb0 ha q1 q2 hb3 hr4 hrow HS HR2 HA2 hgl hz3
 go_upto_region 3 with (rw [HW.out]; refine wpList_store_whole rfl 30 (.tmp 7) (.tmp 13) rfl h (pkArr p0 za) rfl rfl (pkArr (zp 0) za) HB4.out info_pk rfl (one_pk _ _) ?_; simp only [Act.put])
 clear HW HB4 hh
 generalize World.setRow _ _ _ = W5 at HL5 ⊢
 have HK5 : Hid (Box W5 k0 (pkArr (zp 0) za)) := Lib.hid (HK0.out.below (HL5.out.b.mono (by have := HG.out; omega)))
 go_wp2_with fail
 refine (HP.out g g h W1 W5 HL5.out).mono ?_
 rintro r w6 ⟨rfl, pf, af, q1, q2⟩
 have HL6 := Lib.hid q1
 have HPP := Lib.hid q2
 have HK6 : Hid (Box w6 k0 (pkArr (zp 0) za)) := Lib.hid (HK0.out.below (q1.b.mono (by have := HG.out; omega)))
 clear q1 q2 HL5 HK5 HP
 obtain ⟨R1, R2⟩ := R
 have e0 : w6.cell? ⟨g, 0, none⟩ = some (.string R2.rest) := HL6.out.rd.at0
 by_cases hz : R2.rest.size = 0
 ·have hre : R2.rest = ByteArray.empty := ByteArray.size_eq_zero_iff.1 hz
  rw [hre] at e0
  have HQ : Hid ((bodyS c s).2 = R2) := by show _ = _; rw [HE.out]; show R2.want (decide (R2.rest.size = 0)) 8 = R2; rw [decide_eq_true hz, want_true]
  have HPQ : Hid (R2.isBad = false → pf = R1) := HPP.out
  clear hz hre
  go_upto_region 6 with fail
  have HL8 := HL6
  have HK8 := HK6
  clear HL6 HK6 e0 HPP
  have HCAP := Lib.hid HL8.out.cap
  have HNEW := Lib.hid (HL8.out.new.mono (B' := w.heap.size) (by have := HKK.out; omega))
  have HWF : Hid ((bodyS c s).2.Wf) := by show St.Wf _; rw [HQ.out]; exact HL8.out.wf
  have HRES : Hid (Ending.returned (.tuple #[.agg (pkArr pf af), .int .i64 (R2).err]) = .returned (.tuple #[.agg (pkArr pf af), .int .i64 (bodyS c s).2.err])) := by show _ = _; rw [HQ.out]
  have HPF : Hid ((bodyS c s).2.isBad = false → pf = (bodyS c s).1) := fun hb => by
   rw [HQ.out] at hb
   rw [HE.out]
   exact HPQ.out hb
  have HEN := Lib.hid (EndAt.mk (w := w) (k0 := k0) (g := g) (h := h) (st := R2) (p := pf) (a := af) (cs := pkArr (zp 0) za) ⟨HL8.out.rd, HL8.out.bx, HL8.out.at, HK8.out, rfl, (HA.out.trans (HL8.out.b.mono (by have := HKK.out; omega))), by have := HKK.out; omega, by omega, by omega, HL8.out.new.off hkl⟩)
  clear HL8 HK8
  refine wp_region_held_drew (S := fun W => ∃ cs, EndAt true w k0 g h R2 pf af cs W) (by kernel_rfl) ⟨_, HEN.out.drew⟩ (fun hHeld => ?_)
  generalize World.drew _ = Wd at hHeld ⊢
  refine take_load 0 23 30 (.tmp 7) h 0 (.agg (pkArr pf af)) rfl rfl (by kernel_rfl) (fun _ _ _ h => h) (by rfl) hHeld rfl rfl (fun w' hS' => load_bx hS'.choose_spec.out.2.1) ?_
  simp only [Act.put, List.setIfInBounds_toArray, List.set_cons_zero, List.set_cons_succ]
  refine take_op 1 24 ?v1 rfl rfl (by kernel_rfl) (fun _ _ _ h => h) (by rfl) hHeld (fun w' hS' => ?hv1) ?hh1
  case hv1 => (go_simp; try with_reducible rfl)
  simp only [Act.put, List.setIfInBounds_toArray, List.set_cons_zero, List.set_cons_succ]
  refine take_op 2 25 ?v2 rfl rfl (by kernel_rfl) (fun _ _ _ h => h) (by rfl) hHeld (fun w' hS' => ?hv2) ?hh2
  case hv2 => (go_simp; try with_reducible rfl)
  simp only [Act.put, List.setIfInBounds_toArray, List.set_cons_zero, List.set_cons_succ]
  refine take_op 3 26 ?v3 rfl rfl (by kernel_rfl) (fun _ _ _ h => h) (by rfl) hHeld (fun w' hS' => ?hv3) ?hh3
  case hv3 => (go_simp; try with_reducible rfl)
  simp only [Act.put, List.setIfInBounds_toArray, List.set_cons_zero, List.set_cons_succ]
  refine take_op 4 27 ?v4 rfl rfl (by kernel_rfl) (fun _ _ _ h => h) (by rfl) hHeld (fun w' hS' => ?hv4) ?hh4
  case hv4 => (have k := hS'.choose_spec.err; go_simp; try with_reducible rfl)
  simp only [Act.put, List.setIfInBounds_toArray, List.set_cons_zero, List.set_cons_succ]
  obtain ⟨cs, hcs⟩ := hHeld
  obtain ⟨T, hT⟩ := hcs.out.2.2.2.1
  refine only_op 5 rfl (by kernel_rfl) (by rfl) (wp_store_row 30 (.tmp 4) (.tmp 23) rfl k0 (pkArr pf af) rfl rfl T cs hT info_pk hcs.out.2.2.2.2.1 (one_pk _ _) ⟨⟨_, hcs.row⟩, ?_⟩)
  simp only [Act.put]
  have hHeld2 := hcs.row
  refine take_op 6 5 ?v6 rfl rfl (by kernel_rfl) (fun _ _ _ h => h) (by rfl) ⟨_, hHeld2⟩ (fun w' hS' => ?hv6) ?hh6
  case hv6 => (go_simp; try with_reducible rfl)
  simp only [Act.put, List.setIfInBounds_toArray]
  refine wpAnyH_done (by kernel_rfl) ?_ _
  have HF := Lib.hid hHeld2
  clear hcs hT hHeld2
  go_wp2_with fail
  refine bodyPost_ret (results_pk2 Tryz.results82 rfl HF.out.out.2.2.2.1 rfl) rfl ⟨pf, af, HRES.out, HF.out.out.2.2.1, HCAP.out, HNEW.out, HF.out.out.2.2.2.2.2.1, HWF.out, HPF.out⟩
 ·obtain ⟨hne, hne2⟩ := size_facts hz
  have HQ : Hid ((bodyS c s).2 = R2.want false 8) := by show _ = _; rw [HE.out]; show R2.want (decide (R2.rest.size = 0)) 8 = _; rw [decide_eq_false hz]
  have HPQ : Hid ((R2.want false 8).isBad = false → pf = R1) := fun hb => by cases R2 <;> cases hb
  have HX := Lib.hid (fun (W : World) (h : RdOf true W g R2) => fail_st g R2 8 W (by decide) h)
  clear hz
  go_wp2_with fail
  refine (HX.out _ HL6.out.rd).mono ?_
  rintro r w7 ⟨rfl, q1, q2⟩
  have HL8 := Lib.hid (HL6.out.bar q2 q1)
  have HK8 : Hid (Box w7 k0 (pkArr (zp 0) za)) := Lib.hid (HK0.out.below (HL8.out.b.mono (by have := HG.out; omega)))
  clear q1 q2 HL6 HK6 e0 hne hne2 HPP HX
  go_upto_region 6 with fail
  have HCAP := Lib.hid HL8.out.cap
  have HNEW := Lib.hid (HL8.out.new.mono (B' := w.heap.size) (by have := HKK.out; omega))
  have HWF : Hid ((bodyS c s).2.Wf) := by show St.Wf _; rw [HQ.out]; exact HL8.out.wf
  have HRES : Hid (Ending.returned (.tuple #[.agg (pkArr pf af), .int .i64 (R2.want false 8).err]) = .returned (.tuple #[.agg (pkArr pf af), .int .i64 (bodyS c s).2.err])) := by show _ = _; rw [HQ.out]
  have HPF : Hid ((bodyS c s).2.isBad = false → pf = (bodyS c s).1) := fun hb => by
   rw [HQ.out] at hb
   rw [HE.out]
   exact HPQ.out hb
  have HEN := Lib.hid (EndAt.mk (w := w) (k0 := k0) (g := g) (h := h) (st := R2.want false 8) (p := pf) (a := af) (cs := pkArr (zp 0) za) ⟨HL8.out.rd, HL8.out.bx, HL8.out.at, HK8.out, rfl, (HA.out.trans (HL8.out.b.mono (by have := HKK.out; omega))), by have := HKK.out; omega, by omega, by omega, HL8.out.new.off hkl⟩)
  clear HL8 HK8
  refine wp_region_held_drew (S := fun W => ∃ cs, EndAt true w k0 g h (R2.want false 8) pf af cs W) (by kernel_rfl) ⟨_, HEN.out.drew⟩ (fun hHeld => ?_)
  generalize World.drew _ = Wd at hHeld ⊢
  refine take_load 0 23 30 (.tmp 7) h 0 (.agg (pkArr pf af)) rfl rfl (by kernel_rfl) (fun _ _ _ h => h) (by rfl) hHeld rfl rfl (fun w' hS' => load_bx hS'.choose_spec.out.2.1) ?_
  simp only [Act.put, List.setIfInBounds_toArray, List.set_cons_zero, List.set_cons_succ]
  refine take_op 1 24 ?v1b rfl rfl (by kernel_rfl) (fun _ _ _ h => h) (by rfl) hHeld (fun w' hS' => ?hv1b) ?hh1b
  case hv1b => (go_simp; try with_reducible rfl)
  simp only [Act.put, List.setIfInBounds_toArray, List.set_cons_zero, List.set_cons_succ]
  refine take_op 2 25 ?v2b rfl rfl (by kernel_rfl) (fun _ _ _ h => h) (by rfl) hHeld (fun w' hS' => ?hv2b) ?hh2b
  case hv2b => (go_simp; try with_reducible rfl)
  simp only [Act.put, List.setIfInBounds_toArray, List.set_cons_zero, List.set_cons_succ]
  refine take_op 3 26 ?v3b rfl rfl (by kernel_rfl) (fun _ _ _ h => h) (by rfl) hHeld (fun w' hS' => ?hv3b) ?hh3b
  case hv3b => (go_simp; try with_reducible rfl)
  simp only [Act.put, List.setIfInBounds_toArray, List.set_cons_zero, List.set_cons_succ]
  refine take_op 4 27 ?v4b rfl rfl (by kernel_rfl) (fun _ _ _ h => h) (by rfl) hHeld (fun w' hS' => ?hv4b) ?hh4b
  case hv4b => (have k := hS'.choose_spec.err; go_simp; try with_reducible rfl)
  simp only [Act.put, List.setIfInBounds_toArray, List.set_cons_zero, List.set_cons_succ]
  obtain ⟨cs, hcs⟩ := hHeld
  obtain ⟨T, hT⟩ := hcs.out.2.2.2.1
  refine only_op 5 rfl (by kernel_rfl) (by rfl) (wp_store_row 30 (.tmp 4) (.tmp 23) rfl k0 (pkArr pf af) rfl rfl T cs hT info_pk hcs.out.2.2.2.2.1 (one_pk _ _) ⟨⟨_, hcs.row⟩, ?_⟩)
  simp only [Act.put]
  have hHeld2 := hcs.row
  refine take_op 6 5 ?v6b rfl rfl (by kernel_rfl) (fun _ _ _ h => h) (by rfl) ⟨_, hHeld2⟩ (fun w' hS' => ?hv6b) ?hh6b
  case hv6b => (go_simp; try with_reducible rfl)
  simp only [Act.put, List.setIfInBounds_toArray]
  refine wpAnyH_done (by kernel_rfl) ?_ _
  have HF := Lib.hid hHeld2
  clear hcs hT hHeld2
  go_wp2_with fail
  refine bodyPost_ret (results_pk2 Tryz.results82 rfl HF.out.out.2.2.2.1 rfl) rfl ⟨pf, af, HRES.out, HF.out.out.2.2.1, HCAP.out, HNEW.out, HF.out.out.2.2.2.2.2.1, HWF.out, HPF.out⟩
end Go.Proofs.YtdbbcfohjkgdcaaGreat
