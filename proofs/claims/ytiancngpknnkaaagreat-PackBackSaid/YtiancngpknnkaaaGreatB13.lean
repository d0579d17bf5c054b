/- Package pack: what is taken behind a packet's length: a Connect. -/
import Derived.Test.YtiancngpknnkaaaGreatB11
import Derived.Test.YtiancngpknnkaaaGreatB12
set_option maxRecDepth 100000
set_option maxHeartbeats 64000000
namespace Go.Proofs.YtiancngpknnkaaaGreat
open Go.RowKit Go.Lib Prp Pkt Vbi
theorem parts_id (B g h : Nat) (w0 : World) (st : St) (p : Pk) (a : Ad) (w : World) (hk : p.kind = 4 ∨ p.kind = 5 ∨ p.kind = 6 ∨ p.kind = 7) (hl : Live true B w0 g h st p a w) :
    Calls Tryz.prog 97 #[.pointer (some ⟨g, 0, none⟩), .pointer (some ⟨h, 0, none⟩)] w (Done true B w0 g h (idReasonS p st)) := by
  have dk := hl.f0
  have d4 := hl.f4
  have f4 := hl.frozen 4
  have HO0 := number_next g st w hl.rd
  obtain ⟨n, hn⟩ : ∃ n, (st.run numberR).val 0 = n := ⟨_, rfl⟩
  obtain ⟨s1, hs1⟩ : ∃ s1, (st.run numberR).st = s1 := ⟨_, rfl⟩
  rw [hn, hs1] at HO0
  have HE : Hid (idReasonS p st = reasonS { p with id := n } s1) := by show _ = _; rw [← hn, ← hs1]; rfl
  have HO := Lib.hid HO0
  have HL := Lib.hid hl
  clear hl HO0 hn hs1
  rcases hk with hk | hk | hk | hk
  all_goals
    rw [hk] at dk
    clear hk
    go_enter Tryz.func97, Tryz.ntmps97
    go_wp2_with fail
    refine HO.out.mono ?_
    rintro r w1 ⟨rfl, k1, k2⟩
    have HL1 := Lib.hid (HL.out.bar k2 k1)
    clear k1 k2 HO HL dk d4 f4
    have d4 := HL1.out.f4
    have f4 := HL1.out.frozen 4
    have HL2 := Lib.hid (HL1.out.put1 4 (.int .i64 n) { p with id := n } rfl rfl rfl rfl rfl)
    go_wp2_with fail
    refine (reason_is B g h w0 s1 _ a _ HL2.out).mono ?_
    rintro r w2 ⟨rfl, p', a', k1, k2⟩
    have K1 := Lib.hid k1
    have K2 := Lib.hid k2
    clear k1 k2 d4 f4 HL1 HL2
    go_wp2_with fail
    exact bodyPost_end (v := .tuple #[]) (by simp [results, Tryz.results97]) rfl ⟨rfl, p', a', by rw [HE.out]; exact K1.out, by rw [HE.out]; exact K2.out⟩
theorem parts_14 (B g h : Nat) (w0 : World) (st : St) (p : Pk) (a : Ad) (w : World) (hk : p.kind = 14 ∨ p.kind = 15) (hl : Live true B w0 g h st p a w) :
    Calls Tryz.prog 97 #[.pointer (some ⟨g, 0, none⟩), .pointer (some ⟨h, 0, none⟩)] w (Done true B w0 g h (reasonS p st)) := by
  have dk := hl.f0
  have HR := Lib.hid (reason_is B g h w0 st p a w hl)
  clear hl
  rcases hk with hk | hk
  all_goals
    rw [hk] at dk
    clear hk
    go_enter Tryz.func97, Tryz.ntmps97
    go_wp2_with fail
    refine HR.out.mono ?_
    rintro r w2 ⟨rfl, p', a', k1, k2⟩
    have K1 := Lib.hid k1
    have K2 := Lib.hid k2
    clear k1 k2 dk
    go_wp2_with fail
    exact bodyPost_end (v := .tuple #[]) (by simp [results, Tryz.results97]) rfl ⟨rfl, p', a', K1.out, K2.out⟩
theorem parts_none (B g h : Nat) (w0 : World) (st : St) (p : Pk) (a : Ad) (w : World) (hk : p.kind = 0 ∨ p.kind = 12 ∨ p.kind = 13) (hl : Live true B w0 g h st p a w) :
    Calls Tryz.prog 97 #[.pointer (some ⟨g, 0, none⟩), .pointer (some ⟨h, 0, none⟩)] w (Done true B w0 g h (p, st)) := by
  have dk := hl.f0
  have HL := Lib.hid hl
  clear hl
  rcases hk with hk | hk | hk
  all_goals
    rw [hk] at dk
    clear hk
    go_enter Tryz.func97, Tryz.ntmps97
    go_wp2_with fail
    exact bodyPost_end (v := .tuple #[]) (by simp [results, Tryz.results97]) rfl ⟨rfl, p, a, HL.out, fun _ => rfl⟩
theorem pparts_2 (B g h : Nat) (w0 : World) (st : St) (p : Pk) (a : Ad) (w : World) (hk : p.kind = 2) (hl : Live true B w0 g h st p a w) :
    Calls Tryz.prog 97 #[.pointer (some ⟨g, 0, none⟩), .pointer (some ⟨h, 0, none⟩)] w (Done true B w0 g h (ackS p st)) := by
  have dk := hl.f0
  have HO0 := yes_st g st w hl.rd
  obtain ⟨n0, hn0⟩ : ∃ n, (st.run octetR).val 0 = n := ⟨_, rfl⟩
  obtain ⟨s0, hs0⟩ : ∃ s, (st.run octetR).st.want (decide ((st.run octetR).val 0 ≤ 1)) 8 = s := ⟨_, rfl⟩
  rw [hs0, hn0] at HO0
  obtain ⟨n1, hn1⟩ : ∃ n, (s0.run octetR).val 0 = n := ⟨_, rfl⟩
  obtain ⟨s1, hs1⟩ : ∃ s, (s0.run octetR).st = s := ⟨_, rfl⟩
  have H10 := fun (W : World) (hr : RdOf true W g s0) => octet_st g s0 W hr
  rw [hn1, hs1] at H10
  obtain ⟨L, hL⟩ : ∃ L, (s1.run (propsR p.kind)).val [] = L := ⟨_, rfl⟩
  obtain ⟨s2, hs2⟩ : ∃ s, (s1.run (propsR p.kind)).st = s := ⟨_, rfl⟩
  have H20 := fun (W : World) (hr : RdOf true W g s1) => pprops_st p.kind g s1 W hr
  rw [hL, hs2] at H20
  have HE : Hid (ackS p st = ({ p with pre := decide (n0 = 1), re := n1, ps := L }, s2)) := by
    subst hs2 hL hs1 hn1 hs0 hn0
    rfl
  have HO := Lib.hid HO0
  have H1 := Lib.hid H10
  have H2 := Lib.hid H20
  have HL := Lib.hid hl
  clear hl HO0 H10 H20 hn0 hs0 hn1 hs1 hL hs2
  have HK := Lib.hid hk
  have dk2 : w.cell? ⟨h, 0, none⟩ = some (.int .i64 2) := by rw [dk, hk]
  clear hk dk
  obtain ⟨b0, hb0⟩ : ∃ b, decide (n0 = 1) = b := ⟨_, rfl⟩
  rw [hb0] at HO HE
  clear hb0
  go_enter Tryz.func97, Tryz.ntmps97
  go_wp2_with fail
  refine HO.out.mono ?_
  rintro r w1 ⟨rfl, k1, k2⟩
  have HL1 := Lib.hid (HL.out.bar k2 k1)
  clear k1 k2 HO HL dk2
  have d8 := HL1.out.f8
  have f8 := HL1.out.frozen 8
  have HL2 := Lib.hid (HL1.out.put1 8 (.bool b0) { p with pre := b0 } rfl rfl rfl rfl rfl)
  go_wp2_with fail
  refine (H1.out _ HL2.out.rd).mono ?_
  rintro r w2 ⟨rfl, k1, k2⟩
  have HL3 := Lib.hid (HL2.out.bar k2 k1)
  clear k1 k2 d8 f8 HL1 HL2 H1
  have d0 := HL3.out.f0
  have d7 := HL3.out.f7
  have f7 := HL3.out.frozen 7
  have HL4 := Lib.hid (HL3.out.put1 7 (.int .i64 n1) { p with pre := b0, re := n1 } rfl rfl rfl rfl rfl)
  go_wp2_with fail
  refine (H2.out _ HL4.out.rd).mono ?_
  rintro r w3 ⟨A, c, rfl, k1, k2, k3, k4, k5⟩
  have HL5 := Lib.hid (HL4.out.bar k5 k4)
  have HN := Lib.hid (HL4.out.off k2)
  have HA := Lib.hid k3
  clear k2 k3 k4 k5 d0 d7 f7 HL3 HL4 H2
  have d24 := HL5.out.f24
  have f24 := HL5.out.frozen 24
  go_wp2_with fail
  refine bodyPost_end (v := .tuple #[]) (by simp [results, Tryz.results97]) rfl ⟨rfl, { p with pre := b0, re := n1, ps := L }, { a with pa := A, pc := c }, ?_, ?_⟩
  · rw [HE.out]; exact HL5.out.props HA.out HN.out k1
  · rw [HE.out]; exact fun _ => rfl
open Go.RowKit Go.Lib Prp Pkt Vbi
theorem parts_codes (B g h : Nat) (w0 : World) (st : St) (p : Pk) (a : Ad) (w : World) (hk : p.kind = 9 ∨ p.kind = 11) (hl : Live true B w0 g h st p a w) :
    Calls Tryz.prog 97 #[.pointer (some ⟨g, 0, none⟩), .pointer (some ⟨h, 0, none⟩)] w (Done true B w0 g h (codesS p st)) := by
  have dk := hl.f0
  have HO0 := number_next g st w hl.rd
  obtain ⟨n0, hn0⟩ : ∃ n, (st.run numberR).val 0 = n := ⟨_, rfl⟩
  obtain ⟨s1, hs1⟩ : ∃ s, (st.run numberR).st = s := ⟨_, rfl⟩
  rw [hs1, hn0] at HO0
  obtain ⟨L, hL⟩ : ∃ L, (s1.run (propsR p.kind)).val [] = L := ⟨_, rfl⟩
  obtain ⟨s2, hs2⟩ : ∃ s, (s1.run (propsR p.kind)).st = s := ⟨_, rfl⟩
  have H20 := fun (W : World) (hr : RdOf true W g s1) => pprops_st p.kind g s1 W hr
  rw [hL, hs2] at H20
  obtain ⟨F, hF⟩ : ∃ F, s2.run (manyR octetR 5 []) = F := ⟨_, rfl⟩
  have H30 := fun (W : World) (hr : RdOf true W g s2) => many_int g s2 W hr
  rw [hF] at H30
  have HE : Hid (codesS p st = ({ p with id := n0, ps := L, cs := F.val [] }, F.st)) := by
    subst hF hs2 hL hs1 hn0
    rfl
  have HO := Lib.hid HO0
  have H2 := Lib.hid H20
  have H3 := Lib.hid H30
  have HL := Lib.hid hl
  clear hl HO0 H20 H30 hn0 hs1 hL hs2 hF
  rcases hk with hk | hk
  all_goals
    rw [hk] at H2
    rw [hk] at dk
    have HK := Lib.hid hk
    clear hk
    go_enter Tryz.func97, Tryz.ntmps97
    go_wp2_with fail
    refine HO.out.mono ?_
    rintro r w1 ⟨rfl, k1, k2⟩
    have HL1 := Lib.hid (HL.out.bar k2 k1)
    clear k1 k2 HO HL dk
    have d0 := HL1.out.f0
    rw [HK.out] at d0
    have d4 := HL1.out.f4
    have f4 := HL1.out.frozen 4
    have HL2 := Lib.hid (HL1.out.put1 4 (.int .i64 n0) { p with id := n0 } rfl rfl rfl rfl rfl)
    go_wp2_with fail
    refine (H2.out _ HL2.out.rd).mono ?_
    rintro r w2 ⟨A, c, rfl, k1, k2, k3, k4, k5⟩
    have HL3 := Lib.hid (HL2.out.bar k5 k4)
    have HN := Lib.hid (HL2.out.off k2)
    have HA := Lib.hid k3
    have HC := Lib.hid k1
    clear k1 k2 k3 k4 k5 d0 d4 f4 HL1 HL2 H2
    have d24 := HL3.out.f24
    have f24 := HL3.out.frozen 24
    have HL4 := Lib.hid (HL3.out.props HA.out HN.out HC.out)
    go_wp2_with fail
    refine (H3.out _ HL4.out.rd).mono ?_
    rintro r w3 ⟨M, A2, c2, rfl, k1, k2, k3, k4, k5, k6⟩
    have HL5 := Lib.hid (HL4.out.bar k5 k4)
    have HN2 := Lib.hid (HL4.out.off k2)
    have HA2 := Lib.hid k3
    have HM := Lib.hid k6
    have HC2 := Lib.hid k1
    clear k1 k2 k3 k4 k5 k6 d24 f24 HL3 HL4 H3
    have d9 := HL5.out.f9
    have f9 := HL5.out.frozen 9
    go_wp2_with fail
    refine bodyPost_end (v := .tuple #[]) (by simp [results, Tryz.results97]) rfl ⟨rfl, { p with id := n0, ps := L, cs := M }, { a with pa := A, pc := c, ca := A2, cc := c2 }, ?_, ?_⟩
    · rw [HE.out]; exact HL5.out.codes HA2.out HN2.out HC2.out
    · rw [HE.out]; exact fun hb => by rw [HM.out hb]
open Go.RowKit Go.Lib Prp Pkt Vbi
theorem publish_q {p : Pk} {st : St} (h : 0 < p.q) : publishS p st = ({ p with t := (st.run (longR true)).val ⟨#[]⟩, id := ((st.run (longR true)).st.run numberR).val 0, ps := ((((st.run (longR true)).st.run numberR).st.run (propsR p.kind)).val []), b := (bodyR (((st.run (longR true)).st.run numberR).st.run (propsR p.kind)).st).1 }, (bodyR (((st.run (longR true)).st.run numberR).st.run (propsR p.kind)).st).2) := by
  unfold publishS
  simp only [if_pos h]
theorem publish_0 {p : Pk} {st : St} (h : ¬ 0 < p.q) : publishS p st = ({ p with t := (st.run (longR true)).val ⟨#[]⟩, ps := (((st.run (longR true)).st.run (propsR p.kind)).val []), b := (bodyR ((st.run (longR true)).st.run (propsR p.kind)).st).1 }, (bodyR ((st.run (longR true)).st.run (propsR p.kind)).st).2) := by
  unfold publishS
  simp only [if_neg h]
  generalize st.run (longR true) = r0
  cases r0 <;> rfl
theorem body_end {B g h : Nat} {w0 W : World} {st : St} {p : Pk} {a : Ad} {s : ByteArray} (k : Live true B w0 g h st p a W) (hs : st.rest = s) (hb : s.size ≤ 1024) :
    Live true B w0 g h (bodyR st).2 { p with b := s } a ((W.setCell ⟨h, 6, none⟩ (.string s)).setCell ⟨g, 0, none⟩ (.string ⟨#[]⟩)) ∧ (bodyR st).1 = s := by
  have k1 := k.put1 6 (.string s) { p with b := s } rfl rfl rfl rfl rfl
  have hr := k1.rd
  cases st with
  | ok s' =>
    have hs' : s' = s := hs
    subst hs'
    have hw : (St.ok s').want (decide ((St.ok s').rest.size ≤ 1024)) 2 = .ok s' := by rw [decide_eq_true (show (St.ok s').rest.size ≤ 1024 from hb), want_true]
    have hB : bodyR (.ok s') = (s', .ok ⟨#[]⟩) := by unfold bodyR; rw [hw]; rfl
    rw [hB]
    exact ⟨k1.bar (Bar.set g _ 0 _) ⟨hr.1.put0 ⟨#[]⟩, Nat.zero_le _⟩, rfl⟩
  | bad e =>
    obtain ⟨h0, s', h1, h2, h3⟩ := hr
    have hs' : ⟨#[]⟩ = s := hs
    subst hs'
    exact ⟨k1.bar (Bar.set g _ 0 _) ⟨h0, ⟨#[]⟩, h1.put0 ⟨#[]⟩, Nat.zero_le _, fun _ => rfl⟩, rfl⟩
theorem body_over {st : St} (hb : ¬ st.rest.size ≤ 1024) : bodyR st = bodyR (st.want false 2) ∧ (st.want false 2).rest = ⟨#[]⟩ := by
  cases st with
  | bad e => exact absurd (Nat.zero_le _) hb
  | ok s =>
    have : decide ((St.ok s).rest.size ≤ 1024) = false := decide_eq_false hb
    refine ⟨?_, rfl⟩
    unfold bodyR
    rw [this]
    rfl
theorem publish_is (B g h : Nat) (w0 : World) (st : St) (p : Pk) (a : Ad) (w : World) (hl : Live true B w0 g h st p a w) :
    Calls Tryz.prog 121 #[.pointer (some ⟨g, 0, none⟩), .pointer (some ⟨h, 0, none⟩)] w (Done true B w0 g h (publishS p st)) := by
  have hgh : ¬ g = h := hl.out.2.2.2.1
  have HO0 := words_st g st w hl.rd
  obtain ⟨T, hT⟩ : ∃ T, (st.run (longR true)).val ⟨#[]⟩ = T := ⟨_, rfl⟩
  obtain ⟨s1, hs1⟩ : ∃ s, (st.run (longR true)).st = s := ⟨_, rfl⟩
  rw [hs1, hT] at HO0
  have HO := Lib.hid HO0
  have HL := Lib.hid hl
  have HX := Lib.hid (fun (s : St) (W : World) (h : RdOf true W g s) => fail_st g s 2 W (by decide) h)
  have HCl := Lib.hid (fun (s : ByteArray) (W : World) (h : s.size ≤ 281474976710656) => Clone_same s W h)
  clear hl HO0
  by_cases hq : 0 < p.q
  · obtain ⟨n0, hn0⟩ : ∃ n, (s1.run numberR).val 0 = n := ⟨_, rfl⟩
    obtain ⟨s2, hs2⟩ : ∃ s, (s1.run numberR).st = s := ⟨_, rfl⟩
    have H10 := fun (W : World) (hr : RdOf true W g s1) => number_next g s1 W hr
    rw [hn0, hs2] at H10
    obtain ⟨L, hL⟩ : ∃ L, (s2.run (propsR p.kind)).val [] = L := ⟨_, rfl⟩
    obtain ⟨s3, hs3⟩ : ∃ s, (s2.run (propsR p.kind)).st = s := ⟨_, rfl⟩
    have H20 := fun (W : World) (hr : RdOf true W g s2) => pprops_st p.kind g s2 W hr
    rw [hL, hs3] at H20
    have HE : Hid (publishS p st = ({ p with t := T, id := n0, ps := L, b := (bodyR s3).1 }, (bodyR s3).2)) := by
      subst hs3 hL hs2 hn0 hs1 hT
      exact publish_q hq
    have H1 := Lib.hid H10
    have H2 := Lib.hid H20
    clear H10 H20 hn0 hs1 hL hs2 hs3 hT
    go_enter Tryz.func121, Tryz.ntmps121
    go_wp2_with fail
    refine HO.out.mono ?_
    rintro r w1 ⟨rfl, k1, k2⟩
    have HL1 := Lib.hid (HL.out.bar k2 k1)
    clear k1 k2 HO HL
    have d5 := HL1.out.f5
    have f5 := HL1.out.frozen 5
    have d2 := HL1.out.f2
    have HL2 := Lib.hid (HL1.out.put1 5 (.string T) { p with t := T } rfl rfl rfl rfl rfl)
    go_wp2_with fail
    refine (H1.out _ HL2.out.rd).mono ?_
    rintro r w2 ⟨rfl, k1, k2⟩
    have HL3 := Lib.hid (HL2.out.bar k2 k1)
    clear k1 k2 d5 f5 d2 HL1 HL2 H1
    have d0 := HL3.out.f0
    have d4 := HL3.out.f4
    have f4 := HL3.out.frozen 4
    have HL4 := Lib.hid (HL3.out.put1 4 (.int .i64 n0) { p with t := T, id := n0 } rfl rfl rfl rfl rfl)
    go_wp2_with fail
    refine (H2.out _ HL4.out.rd).mono ?_
    rintro r w3 ⟨A, c, rfl, k1, k2, k3, k4, k5⟩
    have HL5 := Lib.hid (HL4.out.bar k5 k4)
    have HN := Lib.hid (HL4.out.off k2)
    have HA := Lib.hid k3
    have HC := Lib.hid k1
    clear k1 k2 k3 k4 k5 d0 d4 f4 HL3 HL4 H2
    have e0 := HL5.out.rd.at0
    have d24 := HL5.out.f24
    have f24 := HL5.out.frozen 24
    have HL6 := Lib.hid (HL5.out.props HA.out HN.out HC.out)
    obtain ⟨s, hs⟩ : ∃ s, s3.rest = s := ⟨_, rfl⟩
    rw [hs] at e0
    have hsz : s.size ≤ 268435456 := by
      obtain ⟨s', _, h2, _, _, h3⟩ := HL5.out.rd.rd
      rw [← hs, h3 rfl]; exact h2
    by_cases hb : s.size ≤ 1024
    · have hbI : ¬ (1024 : Int) < (s.size : Int) := by omega
      go_wp2_with fail
      refine (HCl.out s _ (by omega)).mono ?_
      rintro r w4 ⟨rfl, k1⟩
      have HL7 := Lib.hid (HL6.out.below k1)
      clear k1 e0 d24 f24 HL5 HL6
      have d6 := HL7.out.f6
      have f6 := HL7.out.frozen 6
      have e0 := HL7.out.rd.at0
      have g0 : w4.frozen? ⟨g, 0, none⟩ = false := HL7.out.rd.exact.frozen 0
      have HF := Lib.hid (body_end HL7.out hs hb)
      go_wp2_with fail
      refine bodyPost_end (v := .tuple #[]) (by simp [results, Tryz.results121]) rfl ⟨rfl, { p with t := T, id := n0, ps := L, b := s }, { a with pa := A, pc := c }, ?_, ?_⟩
      · rw [HE.out]; exact HF.out.1
      · rw [HE.out]; exact fun _ => by rw [HF.out.2]
    · have hbI : (1024 : Int) < (s.size : Int) := by omega
      obtain ⟨hv1, hv2⟩ := body_over (st := s3) (by rw [hs]; exact hb)
      have HV := Lib.hid hv1
      have HV2 := Lib.hid hv2
      clear hv1 hv2
      go_wp2_with fail
      refine (HX.out s3 _ HL6.out.rd).mono ?_
      rintro r w4 ⟨rfl, k1, k2⟩
      have HL7 := Lib.hid (HL6.out.bar k2 k1)
      clear k1 k2 e0 d24 f24 HL5 HL6
      have e0 := HL7.out.rd.at0
      rw [HV2.out] at e0
      go_wp2_with fail
      refine (HCl.out ⟨#[]⟩ _ (Nat.zero_le _)).mono ?_
      rintro r w5 ⟨rfl, k1⟩
      have HL8 := Lib.hid (HL7.out.below k1)
      clear k1 e0 HL7
      have d6 := HL8.out.f6
      have f6 := HL8.out.frozen 6
      have e0 := HL8.out.rd.at0
      have g0 : w5.frozen? ⟨g, 0, none⟩ = false := HL8.out.rd.exact.frozen 0
      have HF := Lib.hid (body_end HL8.out HV2.out (Nat.zero_le _))
      go_wp2_with fail
      refine bodyPost_end (v := .tuple #[]) (by simp [results, Tryz.results121]) rfl ⟨rfl, { p with t := T, id := n0, ps := L, b := ⟨#[]⟩ }, { a with pa := A, pc := c }, ?_, ?_⟩
      · rw [HE.out, HV.out]; exact HF.out.1
      · rw [HE.out, HV.out]; exact fun _ => by rw [HF.out.2]
  · obtain ⟨L, hL⟩ : ∃ L, (s1.run (propsR p.kind)).val [] = L := ⟨_, rfl⟩
    obtain ⟨s3, hs3⟩ : ∃ s, (s1.run (propsR p.kind)).st = s := ⟨_, rfl⟩
    have H20 := fun (W : World) (hr : RdOf true W g s1) => pprops_st p.kind g s1 W hr
    rw [hL, hs3] at H20
    have HE : Hid (publishS p st = ({ p with t := T, ps := L, b := (bodyR s3).1 }, (bodyR s3).2)) := by
      subst hs3 hL hs1 hT
      exact publish_0 hq
    have H2 := Lib.hid H20
    clear H20 hs1 hL hs3 hT
    go_enter Tryz.func121, Tryz.ntmps121
    go_wp2_with fail
    refine HO.out.mono ?_
    rintro r w1 ⟨rfl, k1, k2⟩
    have HL1 := Lib.hid (HL.out.bar k2 k1)
    clear k1 k2 HO HL
    have d5 := HL1.out.f5
    have f5 := HL1.out.frozen 5
    have d2 := HL1.out.f2
    have d0 := HL1.out.f0
    have HL4 := Lib.hid (HL1.out.put1 5 (.string T) { p with t := T } rfl rfl rfl rfl rfl)
    go_wp2_with fail
    refine (H2.out _ HL4.out.rd).mono ?_
    rintro r w3 ⟨A, c, rfl, k1, k2, k3, k4, k5⟩
    have HL5 := Lib.hid (HL4.out.bar k5 k4)
    have HN := Lib.hid (HL4.out.off k2)
    have HA := Lib.hid k3
    have HC := Lib.hid k1
    clear k1 k2 k3 k4 k5 d0 d5 f5 d2 HL1 HL4 H2
    have e0 := HL5.out.rd.at0
    have d24 := HL5.out.f24
    have f24 := HL5.out.frozen 24
    have HL6 := Lib.hid (HL5.out.props HA.out HN.out HC.out)
    obtain ⟨s, hs⟩ : ∃ s, s3.rest = s := ⟨_, rfl⟩
    rw [hs] at e0
    have hsz : s.size ≤ 268435456 := by
      obtain ⟨s', _, h2, _, _, h3⟩ := HL5.out.rd.rd
      rw [← hs, h3 rfl]; exact h2
    by_cases hb : s.size ≤ 1024
    · have hbI : ¬ (1024 : Int) < (s.size : Int) := by omega
      go_wp2_with fail
      refine (HCl.out s _ (by omega)).mono ?_
      rintro r w4 ⟨rfl, k1⟩
      have HL7 := Lib.hid (HL6.out.below k1)
      clear k1 e0 d24 f24 HL5 HL6
      have d6 := HL7.out.f6
      have f6 := HL7.out.frozen 6
      have e0 := HL7.out.rd.at0
      have g0 : w4.frozen? ⟨g, 0, none⟩ = false := HL7.out.rd.exact.frozen 0
      have HF := Lib.hid (body_end HL7.out hs hb)
      go_wp2_with fail
      refine bodyPost_end (v := .tuple #[]) (by simp [results, Tryz.results121]) rfl ⟨rfl, { p with t := T, ps := L, b := s }, { a with pa := A, pc := c }, ?_, ?_⟩
      · rw [HE.out]; exact HF.out.1
      · rw [HE.out]; exact fun _ => by rw [HF.out.2]
    · have hbI : (1024 : Int) < (s.size : Int) := by omega
      obtain ⟨hv1, hv2⟩ := body_over (st := s3) (by rw [hs]; exact hb)
      have HV := Lib.hid hv1
      have HV2 := Lib.hid hv2
      clear hv1 hv2
      go_wp2_with fail
      refine (HX.out s3 _ HL6.out.rd).mono ?_
      rintro r w4 ⟨rfl, k1, k2⟩
      have HL7 := Lib.hid (HL6.out.bar k2 k1)
      clear k1 k2 e0 d24 f24 HL5 HL6
      have e0 := HL7.out.rd.at0
      rw [HV2.out] at e0
      go_wp2_with fail
      refine (HCl.out ⟨#[]⟩ _ (Nat.zero_le _)).mono ?_
      rintro r w5 ⟨rfl, k1⟩
      have HL8 := Lib.hid (HL7.out.below k1)
      clear k1 e0 HL7
      have d6 := HL8.out.f6
      have f6 := HL8.out.frozen 6
      have e0 := HL8.out.rd.at0
      have g0 : w5.frozen? ⟨g, 0, none⟩ = false := HL8.out.rd.exact.frozen 0
      have HF := Lib.hid (body_end HL8.out HV2.out (Nat.zero_le _))
      go_wp2_with fail
      refine bodyPost_end (v := .tuple #[]) (by simp [results, Tryz.results121]) rfl ⟨rfl, { p with t := T, ps := L, b := ⟨#[]⟩ }, { a with pa := A, pc := c }, ?_, ?_⟩
      · rw [HE.out, HV.out]; exact HF.out.1
      · rw [HE.out, HV.out]; exact fun _ => by rw [HF.out.2]
theorem parts_3 (B g h : Nat) (w0 : World) (st : St) (p : Pk) (a : Ad) (w : World) (hk : p.kind = 3) (hl : Live true B w0 g h st p a w) :
    Calls Tryz.prog 97 #[.pointer (some ⟨g, 0, none⟩), .pointer (some ⟨h, 0, none⟩)] w (Done true B w0 g h (publishS p st)) := by
  have dk := hl.f0
  have HR := Lib.hid (publish_is B g h w0 st p a w hl)
  clear hl
  rw [hk] at dk
  clear hk
  go_enter Tryz.func97, Tryz.ntmps97
  go_wp2_with fail
  refine HR.out.mono ?_
  rintro r w2 ⟨rfl, p', a', k1, k2⟩
  have K1 := Lib.hid k1
  have K2 := Lib.hid k2
  clear k1 k2 dk
  go_wp2_with fail
  exact bodyPost_end (v := .tuple #[]) (by simp [results, Tryz.results97]) rfl ⟨rfl, p', a', K1.out, K2.out⟩
end Go.Proofs.YtiancngpknnkaaaGreat
namespace Go.Proofs.YtiancngpknnkaaaGreat.Pkt
open Prp Vbi
theorem connRest_eq (p : Pk) (st : St) {K : Int} {L : List P} {C U PW : ByteArray} {wl : Wl} {s3 s4 s5 s9 s10 s11 : St} (h3 : (st.run shortR).val 0 = K) (g3 : (st.run shortR).st = s3) (h4 : (s3.run (propsR p.kind)).val [] = L) (g4 : (s3.run (propsR p.kind)).st = s4)
    (h5 : (s4.run (longR true)).val ⟨#[]⟩ = C) (g5 : (s4.run (longR true)).st = s5) (hw : willS p.w s5 = (wl, s9)) (hu : ifR p.hu true s9 = (U, s10)) (hp : ifR p.hp false s10 = (PW, s11)) :
    connRest p st = ({ p with keep := K, ps := L, cl := C, w := wl, u := U, pw := PW }, s11) := by
  subst h3 g3 h4 g4 h5 g5
  unfold connRest
  simp only [hw, hu, hp]
theorem will_yes {w : Wl} {st : St} (h : w.has = true) {L : List P} {T Bd : ByteArray} {s6 s7 s9 : St} (h6 : (st.run (propsR 0)).val [] = L) (g6 : (st.run (propsR 0)).st = s6) (h7 : (s6.run (longR true)).val ⟨#[]⟩ = T) (g7 : (s6.run (longR true)).st = s7)
    (h9 : ((s7.want (decide (T ≠ ⟨#[]⟩)) 8).run (longR false)).val ⟨#[]⟩ = Bd) (g9 : ((s7.want (decide (T ≠ ⟨#[]⟩)) 8).run (longR false)).st = s9) : willS w st = ({ w with ps := L, t := T, b := Bd }, s9) := by
  subst h6 g6 h7 g7 h9 g9
  unfold willS
  rw [if_pos h]
theorem will_no {w : Wl} {st : St} (h : w.has = false) : willS w st = (w, st) := by
  unfold willS
  rw [if_neg (by rw [h]; decide)]
end Go.Proofs.YtiancngpknnkaaaGreat.Pkt
namespace Go.Proofs.YtiancngpknnkaaaGreat
open Go.RowKit Go.Lib Prp Pkt Vbi
theorem connect_is (B g h : Nat) (w0 : World) (st : St) (a : Ad) (w : World) (hl : Live true B w0 g h st (zp 1) a w) :
    Calls Tryz.prog 117 #[.pointer (some ⟨g, 0, none⟩), .pointer (some ⟨h, 0, none⟩)] w (Done true B w0 g h (connectS (zp 1) st)) := by
  have HP := Lib.hid (protocol_is g st w hl.rd)
  have HF0 := fun (W : World) (hl : Live true B w0 g h (connHead st) (zp 1) a W) => flags_is B g h w0 (connHead st) (zp 1) a W rfl hl
  obtain ⟨sh, hsh⟩ : ∃ s, connHead st = s := ⟨_, rfl⟩
  obtain ⟨n, hn⟩ : ∃ n, connFlags st = n := ⟨_, rfl⟩
  obtain ⟨s1, hs1⟩ : ∃ s, connSt st = s := ⟨_, rfl⟩
  obtain ⟨W0, hW0⟩ : ∃ x, willOf n = x := ⟨_, rfl⟩
  obtain ⟨bc, hbc⟩ : ∃ b, decide (n / 2 % 2 = 1) = b := ⟨_, rfl⟩
  obtain ⟨bp, hbp⟩ : ∃ b, decide (n / 64 % 2 = 1) = b := ⟨_, rfl⟩
  obtain ⟨bu, hbu⟩ : ∃ b, decide (n / 128 = 1) = b := ⟨_, rfl⟩
  have HF : Hid (∀ W : World, Live true B w0 g h sh (zp 1) a W → Calls Tryz.prog 143 #[.pointer (some ⟨g, 0, none⟩), .pointer (some ⟨h, 0, none⟩)] W fun r w' => r = .returned (.tuple #[]) ∧ ∃ a', Live true B w0 g h s1 { zp 1 with clean := bc, hp := bp, hu := bu, w := W0 } a' w') := by
    subst hbu hbp hbc hW0 hs1 hn hsh
    exact HF0
  have HEQ : connectS (zp 1) st = connRest { zp 1 with clean := bc, hp := bp, hu := bu, w := W0 } s1 := by
    subst hbu hbp hbc hW0 hs1 hn
    rfl
  rw [hsh] at HP
  clear hbu hbp hbc hW0 hs1 hn HF0 hsh
  obtain ⟨K, hK⟩ : ∃ K, (s1.run shortR).val 0 = K := ⟨_, rfl⟩
  obtain ⟨s3, hs3⟩ : ∃ s, (s1.run shortR).st = s := ⟨_, rfl⟩
  have H30 := fun (W : World) (hr : RdOf true W g s1) => short_next g s1 W hr
  rw [hK, hs3] at H30
  obtain ⟨L, hL⟩ : ∃ L, (s3.run (propsR 1)).val [] = L := ⟨_, rfl⟩
  obtain ⟨s4, hs4⟩ : ∃ s, (s3.run (propsR 1)).st = s := ⟨_, rfl⟩
  have H40 := fun (W : World) (hr : RdOf true W g s3) => pprops_st 1 g s3 W hr
  rw [hL, hs4] at H40
  obtain ⟨C, hC⟩ : ∃ C, (s4.run (longR true)).val ⟨#[]⟩ = C := ⟨_, rfl⟩
  obtain ⟨s5, hs5⟩ : ∃ s, (s4.run (longR true)).st = s := ⟨_, rfl⟩
  have H50 := fun (W : World) (hr : RdOf true W g s4) => words_st g s4 W hr
  rw [hC, hs5] at H50
  have HE : Hid (∀ (bp bu : Bool) (wl : Wl) (U PW : ByteArray) (s9 s10 s11 : St), willS W0 s5 = (wl, s9) → ifR bu true s9 = (U, s10) → ifR bp false s10 = (PW, s11) →
      connRest { zp 1 with clean := bc, hp := bp, hu := bu, w := W0 } s1 = ({ zp 1 with clean := bc, hp := bp, hu := bu, w := wl, keep := K, ps := L, cl := C, u := U, pw := PW }, s11)) :=
    fun bp bu wl U PW s9 s10 s11 e1 e2 e3 => connRest_eq { zp 1 with clean := bc, hp := bp, hu := bu, w := W0 } s1 hK hs3 hL hs4 hC hs5 e1 e2 e3
  rw [HEQ]
  have H3 := Lib.hid H30
  have H4 := Lib.hid H40
  have H5 := Lib.hid H50
  have HL := Lib.hid hl
  clear hl H30 H40 H50 hK hs3 hL hs4 hC hs5 HEQ
  have hgh : ¬ g = h := HL.out.out.2.2.2.1
  go_enter Tryz.func117, Tryz.ntmps117
  go_wp2_with fail
  refine HP.out.mono ?_
  rintro r w1 ⟨rfl, k1, k2⟩
  have HL1 := Lib.hid (HL.out.bar k2 k1)
  clear k1 k2 HL HP
  go_wp2_with fail
  refine (HF.out _ HL1.out).mono ?_
  rintro r w2 ⟨rfl, a2, k1⟩
  have HL2 := Lib.hid k1
  clear k1 HL1 HF
  go_wp2_with fail
  refine (H3.out _ HL2.out.rd).mono ?_
  rintro r w3 ⟨rfl, k1, k2⟩
  have HL3 := Lib.hid (HL2.out.bar k2 k1)
  clear k1 k2 HL2 H3
  have d13 := HL3.out.f13
  have f13 := HL3.out.frozen 13
  have d0 : w3.cell? ⟨h, 0, none⟩ = some (.int .i64 1) := HL3.out.f0
  have HL4 := Lib.hid (HL3.out.put1 13 (.int .i64 K) { zp 1 with clean := bc, hp := bp, hu := bu, w := W0, keep := K } rfl rfl rfl rfl rfl)
  go_wp2_with fail
  refine (H4.out _ HL4.out.rd).mono ?_
  rintro r w4 ⟨A, c, rfl, k1, k2, k3, k4, k5⟩
  have HL5 := Lib.hid (HL4.out.bar k5 k4)
  have HN := Lib.hid (HL4.out.off k2)
  have HA := Lib.hid k3
  have HC := Lib.hid k1
  clear k1 k2 k3 k4 k5 d0 d13 f13 HL3 HL4 H4
  have d24 := HL5.out.f24
  have f24 := HL5.out.frozen 24
  have HL6 := Lib.hid (HL5.out.props HA.out HN.out HC.out)
  go_wp2_with fail
  refine (H5.out _ HL6.out.rd).mono ?_
  rintro r w5 ⟨rfl, k1, k2⟩
  have HL7 := Lib.hid (HL6.out.bar k2 k1)
  clear k1 k2 d24 f24 HL5 HL6 H5 HN HA HC
  have d11 := HL7.out.f11
  have f11 := HL7.out.frozen 11
  have HL8 := Lib.hid (HL7.out.put1 11 (.string C) { zp 1 with clean := bc, hp := bp, hu := bu, w := W0, keep := K, ps := L, cl := C } rfl rfl rfl rfl rfl)
  go_upto_region 5 with fail
  clear HL7 d11 f11
  generalize World.setCell _ _ _ = W8 at HL8 ⊢
  obtain ⟨hasb, hhas⟩ : ∃ b, W0.has = b := ⟨_, rfl⟩
  have d14 : W8.cell? ⟨h, 14, none⟩ = some (.bool hasb) := by rw [← hhas]; exact HL8.out.f14
  cases hasb with
  | false =>
    have HWN := Lib.hid (will_no (st := s5) hhas)
    clear hhas
    go_upto_region 11 with fail
    have HLW := HL8
    clear HL8 d14
    have d20 := HLW.out.f20
    cases bu with
    | true =>
      obtain ⟨U, hU⟩ : ∃ U, (s5.run (longR true)).val ⟨#[]⟩ = U := ⟨_, rfl⟩
      obtain ⟨s10, hs10⟩ : ∃ s, (s5.run (longR true)).st = s := ⟨_, rfl⟩
      have HT0 := fun (W : World) (hr : RdOf true W g s5) => words_st g s5 W hr
      rw [hU, hs10] at HT0
      have HIU : Hid (ifR true true s5 = (U, s10)) := by show _ = _; rw [← hU, ← hs10]; rfl
      have HT := Lib.hid HT0
      clear hU hs10 HT0
      go_wp2_with fail
      refine (HT.out _ HLW.out.rd).mono ?_
      rintro r wu ⟨rfl, k1, k2⟩
      have HLX := Lib.hid (HLW.out.bar k2 k1)
      clear k1 k2 HLW
      have d21 := HLX.out.f21
      have f21 := HLX.out.frozen 21
      have HLU := Lib.hid (HLX.out.put1 21 (.string U) { zp 1 with clean := bc, hp := bp, hu := true, w := W0, keep := K, ps := L, cl := C, u := U } rfl rfl rfl rfl rfl)
      go_upto_region 13 with fail
      clear HLX d21 f21
      generalize hWu : World.setCell _ _ _ = Wu at HLU ⊢
      have d22 := HLU.out.f22
      cases bp with
      | true =>
        obtain ⟨PW, hPW⟩ : ∃ U, (s10.run (longR false)).val ⟨#[]⟩ = U := ⟨_, rfl⟩
        obtain ⟨s11, hs11⟩ : ∃ s, (s10.run (longR false)).st = s := ⟨_, rfl⟩
        have HT0 := fun (W : World) (hr : RdOf true W g s10) => bin_next g s10 W hr
        rw [hPW, hs11] at HT0
        have HIP : Hid (ifR true false s10 = (PW, s11)) := by show _ = _; rw [← hPW, ← hs11]; rfl
        have HT := Lib.hid HT0
        clear hPW hs11 HT0
        go_wp2_with fail
        refine (HT.out _ HLU.out.rd).mono ?_
        rintro r wp ⟨rfl, k1, k2⟩
        have HLX := Lib.hid (HLU.out.bar k2 k1)
        clear k1 k2 HLU d22
        have d23 := HLX.out.f23
        have f23 := HLX.out.frozen 23
        have HLP := Lib.hid (HLX.out.put1 23 (.string PW) { zp 1 with clean := bc, hp := true, hu := true, w := W0, keep := K, ps := L, cl := C, u := U, pw := PW } rfl rfl rfl rfl rfl)
        go_wp2_with fail
        have HEE := HE.out true true _ _ _ _ _ _ HWN.out HIU.out HIP.out
        exact bodyPost_end (v := .tuple #[]) (by simp [results, Tryz.results117]) rfl ⟨rfl, _, _, by rw [HEE]; exact HLP.out, by rw [HEE]; exact fun _ => rfl⟩
      | false =>
        go_wp2_with fail
        have HEE := HE.out false true _ _ _ _ _ _ HWN.out HIU.out rfl
        exact bodyPost_end (v := .tuple #[]) (by simp [results, Tryz.results117]) rfl ⟨rfl, _, _, by rw [HEE]; exact HLU.out, by rw [HEE]; exact fun _ => rfl⟩
    | false =>
      go_upto_region 13 with fail
      have HLU := HLW
      clear HLW
      skip
      have d22 := HLU.out.f22
      cases bp with
      | true =>
        obtain ⟨PW, hPW⟩ : ∃ U, (s5.run (longR false)).val ⟨#[]⟩ = U := ⟨_, rfl⟩
        obtain ⟨s11, hs11⟩ : ∃ s, (s5.run (longR false)).st = s := ⟨_, rfl⟩
        have HT0 := fun (W : World) (hr : RdOf true W g s5) => bin_next g s5 W hr
        rw [hPW, hs11] at HT0
        have HIP : Hid (ifR true false s5 = (PW, s11)) := by show _ = _; rw [← hPW, ← hs11]; rfl
        have HT := Lib.hid HT0
        clear hPW hs11 HT0
        go_wp2_with fail
        refine (HT.out _ HLU.out.rd).mono ?_
        rintro r wp ⟨rfl, k1, k2⟩
        have HLX := Lib.hid (HLU.out.bar k2 k1)
        clear k1 k2 HLU d22
        have d23 := HLX.out.f23
        have f23 := HLX.out.frozen 23
        have HLP := Lib.hid (HLX.out.put1 23 (.string PW) { zp 1 with clean := bc, hp := true, hu := false, w := W0, keep := K, ps := L, cl := C, pw := PW } rfl rfl rfl rfl rfl)
        go_wp2_with fail
        have HEE := HE.out true false _ _ _ _ _ _ HWN.out rfl HIP.out
        exact bodyPost_end (v := .tuple #[]) (by simp [results, Tryz.results117]) rfl ⟨rfl, _, _, by rw [HEE]; exact HLP.out, by rw [HEE]; exact fun _ => rfl⟩
      | false =>
        go_wp2_with fail
        have HEE := HE.out false false _ _ _ _ _ _ HWN.out rfl rfl
        exact bodyPost_end (v := .tuple #[]) (by simp [results, Tryz.results117]) rfl ⟨rfl, _, _, by rw [HEE]; exact HLU.out, by rw [HEE]; exact fun _ => rfl⟩
  | true =>
    obtain ⟨WL, hWL⟩ : ∃ L, (s5.run (propsR 0)).val [] = L := ⟨_, rfl⟩
    obtain ⟨s6, hs6⟩ : ∃ s, (s5.run (propsR 0)).st = s := ⟨_, rfl⟩
    have H60 := fun (W : World) (hr : RdOf true W g s5) => pprops_st 0 g s5 W hr
    rw [hWL, hs6] at H60
    obtain ⟨WT, hWT⟩ : ∃ C, (s6.run (longR true)).val ⟨#[]⟩ = C := ⟨_, rfl⟩
    obtain ⟨s7, hs7⟩ : ∃ s, (s6.run (longR true)).st = s := ⟨_, rfl⟩
    have H70 := fun (W : World) (hr : RdOf true W g s6) => words_st g s6 W hr
    rw [hWT, hs7] at H70
    obtain ⟨s8, hs8⟩ : ∃ s, s7.want (decide (WT ≠ ⟨#[]⟩)) 8 = s := ⟨_, rfl⟩
    obtain ⟨WB, hWB⟩ : ∃ C, (s8.run (longR false)).val ⟨#[]⟩ = C := ⟨_, rfl⟩
    obtain ⟨s9, hs9⟩ : ∃ s, (s8.run (longR false)).st = s := ⟨_, rfl⟩
    have H90 := fun (W : World) (hr : RdOf true W g s8) => bin_next g s8 W hr
    rw [hWB, hs9] at H90
    have HWN : Hid (willS W0 s5 = ({ W0 with ps := WL, t := WT, b := WB }, s9)) := will_yes hhas hWL hs6 hWT hs7 (by rw [hs8]; exact hWB) (by rw [hs8]; exact hs9)
    have H6 := Lib.hid H60
    have H7 := Lib.hid H70
    have H9 := Lib.hid H90
    have HX : Hid (WT = ⟨#[]⟩ → ∀ W, RdOf true W g s7 → Calls Tryz.prog 98 #[.pointer (some ⟨g, 0, none⟩), .int .i64 8] W fun r w' => r = .returned (.tuple #[]) ∧ RdOf true w' g s8 ∧ Bar g W w') := fun e W hr => by
      have := fail_st g s7 8 W (by decide) hr
      rw [← hs8, e]
      exact this
    have HX2 : Hid (WT ≠ ⟨#[]⟩ → s8 = s7) := fun e => by rw [← hs8, decide_eq_true e, want_true]
    clear hhas hWL hs6 hWT hs7 hs8 hWB hs9 H60 H70 H90
    go_wp2_with fail
    refine (H6.out _ HL8.out.rd).mono ?_
    rintro r w6 ⟨A2, c2, rfl, k1, k2, k3, k4, k5⟩
    have HL9 := Lib.hid (HL8.out.bar k5 k4)
    have HN := Lib.hid (HL8.out.off k2)
    have HA := Lib.hid k3
    have HC := Lib.hid k1
    clear k1 k2 k3 k4 k5 d14 HL8 H6
    have d19 := HL9.out.f19
    have f19 := HL9.out.frozen 19
    have HL10 := Lib.hid (HL9.out.wprops HA.out HN.out HC.out)
    go_wp2_with fail
    refine (H7.out _ HL10.out.rd).mono ?_
    rintro r w7 ⟨rfl, k1, k2⟩
    have HL11 := Lib.hid (HL10.out.bar k2 k1)
    clear k1 k2 d19 f19 HL9 HL10 H7 HN HA HC
    have d17 := HL11.out.f17
    have f17 := HL11.out.frozen 17
    have HL12 := Lib.hid (HL11.out.put1 17 (.string WT) { zp 1 with clean := bc, hp := bp, hu := bu, w := { W0 with ps := WL, t := WT }, keep := K, ps := L, cl := C } rfl rfl rfl rfl rfl)
    by_cases hz : WT.size = 0
    · obtain rfl : WT = ⟨#[]⟩ := ByteArray.size_eq_zero_iff.1 hz
      have HX1 := Lib.hid (HX.out rfl)
      clear hz HX HX2
      go_wp2_with fail
      refine (HX1.out _ HL12.out.rd).mono ?_
      rintro r w8 ⟨rfl, k1, k2⟩
      have HL13 := Lib.hid (HL12.out.bar k2 k1)
      clear k1 k2 d17 f17 HL11 HL12 HX1
      go_wp2_with fail
      refine (H9.out _ HL13.out.rd).mono ?_
      rintro r w9 ⟨rfl, k1, k2⟩
      have HL14 := Lib.hid (HL13.out.bar k2 k1)
      clear k1 k2 HL13 H9
      have d18 := HL14.out.f18
      have f18 := HL14.out.frozen 18
      have HLW0 := Lib.hid (HL14.out.put1 18 (.string WB) { zp 1 with clean := bc, hp := bp, hu := bu, w := { W0 with ps := WL, t := ⟨#[]⟩, b := WB }, keep := K, ps := L, cl := C } rfl rfl rfl rfl rfl)
      go_upto_region 11 with fail
      clear d18 f18 HL14
      generalize World.setCell _ _ _ = W9 at HLW0 ⊢
      have HLW := HLW0
      clear HLW0
      have d20 := HLW.out.f20
      cases bu with
      | true =>
        obtain ⟨U, hU⟩ : ∃ U, (s9.run (longR true)).val ⟨#[]⟩ = U := ⟨_, rfl⟩
        obtain ⟨s10, hs10⟩ : ∃ s, (s9.run (longR true)).st = s := ⟨_, rfl⟩
        have HT0 := fun (W : World) (hr : RdOf true W g s9) => words_st g s9 W hr
        rw [hU, hs10] at HT0
        have HIU : Hid (ifR true true s9 = (U, s10)) := by show _ = _; rw [← hU, ← hs10]; rfl
        have HT := Lib.hid HT0
        clear hU hs10 HT0
        go_wp2_with fail
        refine (HT.out _ HLW.out.rd).mono ?_
        rintro r wu ⟨rfl, k1, k2⟩
        have HLX := Lib.hid (HLW.out.bar k2 k1)
        clear k1 k2 HLW
        have d21 := HLX.out.f21
        have f21 := HLX.out.frozen 21
        have HLU := Lib.hid (HLX.out.put1 21 (.string U) { zp 1 with clean := bc, hp := bp, hu := true, w := { W0 with ps := WL, t := ⟨#[]⟩, b := WB }, keep := K, ps := L, cl := C, u := U } rfl rfl rfl rfl rfl)
        go_upto_region 13 with fail
        clear HLX d21 f21
        generalize hWu : World.setCell _ _ _ = Wu at HLU ⊢
        have d22 := HLU.out.f22
        cases bp with
        | true =>
          obtain ⟨PW, hPW⟩ : ∃ U, (s10.run (longR false)).val ⟨#[]⟩ = U := ⟨_, rfl⟩
          obtain ⟨s11, hs11⟩ : ∃ s, (s10.run (longR false)).st = s := ⟨_, rfl⟩
          have HT0 := fun (W : World) (hr : RdOf true W g s10) => bin_next g s10 W hr
          rw [hPW, hs11] at HT0
          have HIP : Hid (ifR true false s10 = (PW, s11)) := by show _ = _; rw [← hPW, ← hs11]; rfl
          have HT := Lib.hid HT0
          clear hPW hs11 HT0
          go_wp2_with fail
          refine (HT.out _ HLU.out.rd).mono ?_
          rintro r wp ⟨rfl, k1, k2⟩
          have HLX := Lib.hid (HLU.out.bar k2 k1)
          clear k1 k2 HLU d22
          have d23 := HLX.out.f23
          have f23 := HLX.out.frozen 23
          have HLP := Lib.hid (HLX.out.put1 23 (.string PW) { zp 1 with clean := bc, hp := true, hu := true, w := { W0 with ps := WL, t := ⟨#[]⟩, b := WB }, keep := K, ps := L, cl := C, u := U, pw := PW } rfl rfl rfl rfl rfl)
          go_wp2_with fail
          have HEE := HE.out true true _ _ _ _ _ _ HWN.out HIU.out HIP.out
          exact bodyPost_end (v := .tuple #[]) (by simp [results, Tryz.results117]) rfl ⟨rfl, _, _, by rw [HEE]; exact HLP.out, by rw [HEE]; exact fun _ => rfl⟩
        | false =>
          go_wp2_with fail
          have HEE := HE.out false true _ _ _ _ _ _ HWN.out HIU.out rfl
          exact bodyPost_end (v := .tuple #[]) (by simp [results, Tryz.results117]) rfl ⟨rfl, _, _, by rw [HEE]; exact HLU.out, by rw [HEE]; exact fun _ => rfl⟩
      | false =>
        go_upto_region 13 with fail
        have HLU := HLW
        clear HLW
        skip
        have d22 := HLU.out.f22
        cases bp with
        | true =>
          obtain ⟨PW, hPW⟩ : ∃ U, (s9.run (longR false)).val ⟨#[]⟩ = U := ⟨_, rfl⟩
          obtain ⟨s11, hs11⟩ : ∃ s, (s9.run (longR false)).st = s := ⟨_, rfl⟩
          have HT0 := fun (W : World) (hr : RdOf true W g s9) => bin_next g s9 W hr
          rw [hPW, hs11] at HT0
          have HIP : Hid (ifR true false s9 = (PW, s11)) := by show _ = _; rw [← hPW, ← hs11]; rfl
          have HT := Lib.hid HT0
          clear hPW hs11 HT0
          go_wp2_with fail
          refine (HT.out _ HLU.out.rd).mono ?_
          rintro r wp ⟨rfl, k1, k2⟩
          have HLX := Lib.hid (HLU.out.bar k2 k1)
          clear k1 k2 HLU d22
          have d23 := HLX.out.f23
          have f23 := HLX.out.frozen 23
          have HLP := Lib.hid (HLX.out.put1 23 (.string PW) { zp 1 with clean := bc, hp := true, hu := false, w := { W0 with ps := WL, t := ⟨#[]⟩, b := WB }, keep := K, ps := L, cl := C, pw := PW } rfl rfl rfl rfl rfl)
          go_wp2_with fail
          have HEE := HE.out true false _ _ _ _ _ _ HWN.out rfl HIP.out
          exact bodyPost_end (v := .tuple #[]) (by simp [results, Tryz.results117]) rfl ⟨rfl, _, _, by rw [HEE]; exact HLP.out, by rw [HEE]; exact fun _ => rfl⟩
        | false =>
          go_wp2_with fail
          have HEE := HE.out false false _ _ _ _ _ _ HWN.out rfl rfl
          exact bodyPost_end (v := .tuple #[]) (by simp [results, Tryz.results117]) rfl ⟨rfl, _, _, by rw [HEE]; exact HLU.out, by rw [HEE]; exact fun _ => rfl⟩
    · obtain ⟨zne, zne2⟩ := size_facts hz
      have hs78 := HX2.out (fun e => hz (by rw [e]; rfl))
      subst hs78
      clear hz HX HX2
      go_wp2_with fail
      refine (H9.out _ HL12.out.rd).mono ?_
      rintro r w9 ⟨rfl, k1, k2⟩
      have HL14 := Lib.hid (HL12.out.bar k2 k1)
      clear k1 k2 HL11 HL12 H9 d17 f17 zne zne2
      have d18 := HL14.out.f18
      have f18 := HL14.out.frozen 18
      have HLW0 := Lib.hid (HL14.out.put1 18 (.string WB) { zp 1 with clean := bc, hp := bp, hu := bu, w := { W0 with ps := WL, t := WT, b := WB }, keep := K, ps := L, cl := C } rfl rfl rfl rfl rfl)
      go_upto_region 11 with fail
      clear d18 f18 HL14
      generalize World.setCell _ _ _ = W9 at HLW0 ⊢
      have HLW := HLW0
      clear HLW0
      have d20 := HLW.out.f20
      cases bu with
      | true =>
        obtain ⟨U, hU⟩ : ∃ U, (s9.run (longR true)).val ⟨#[]⟩ = U := ⟨_, rfl⟩
        obtain ⟨s10, hs10⟩ : ∃ s, (s9.run (longR true)).st = s := ⟨_, rfl⟩
        have HT0 := fun (W : World) (hr : RdOf true W g s9) => words_st g s9 W hr
        rw [hU, hs10] at HT0
        have HIU : Hid (ifR true true s9 = (U, s10)) := by show _ = _; rw [← hU, ← hs10]; rfl
        have HT := Lib.hid HT0
        clear hU hs10 HT0
        go_wp2_with fail
        refine (HT.out _ HLW.out.rd).mono ?_
        rintro r wu ⟨rfl, k1, k2⟩
        have HLX := Lib.hid (HLW.out.bar k2 k1)
        clear k1 k2 HLW
        have d21 := HLX.out.f21
        have f21 := HLX.out.frozen 21
        have HLU := Lib.hid (HLX.out.put1 21 (.string U) { zp 1 with clean := bc, hp := bp, hu := true, w := { W0 with ps := WL, t := WT, b := WB }, keep := K, ps := L, cl := C, u := U } rfl rfl rfl rfl rfl)
        go_upto_region 13 with fail
        clear HLX d21 f21
        generalize hWu : World.setCell _ _ _ = Wu at HLU ⊢
        have d22 := HLU.out.f22
        cases bp with
        | true =>
          obtain ⟨PW, hPW⟩ : ∃ U, (s10.run (longR false)).val ⟨#[]⟩ = U := ⟨_, rfl⟩
          obtain ⟨s11, hs11⟩ : ∃ s, (s10.run (longR false)).st = s := ⟨_, rfl⟩
          have HT0 := fun (W : World) (hr : RdOf true W g s10) => bin_next g s10 W hr
          rw [hPW, hs11] at HT0
          have HIP : Hid (ifR true false s10 = (PW, s11)) := by show _ = _; rw [← hPW, ← hs11]; rfl
          have HT := Lib.hid HT0
          clear hPW hs11 HT0
          go_wp2_with fail
          refine (HT.out _ HLU.out.rd).mono ?_
          rintro r wp ⟨rfl, k1, k2⟩
          have HLX := Lib.hid (HLU.out.bar k2 k1)
          clear k1 k2 HLU d22
          have d23 := HLX.out.f23
          have f23 := HLX.out.frozen 23
          have HLP := Lib.hid (HLX.out.put1 23 (.string PW) { zp 1 with clean := bc, hp := true, hu := true, w := { W0 with ps := WL, t := WT, b := WB }, keep := K, ps := L, cl := C, u := U, pw := PW } rfl rfl rfl rfl rfl)
          go_wp2_with fail
          have HEE := HE.out true true _ _ _ _ _ _ HWN.out HIU.out HIP.out
          exact bodyPost_end (v := .tuple #[]) (by simp [results, Tryz.results117]) rfl ⟨rfl, _, _, by rw [HEE]; exact HLP.out, by rw [HEE]; exact fun _ => rfl⟩
        | false =>
          go_wp2_with fail
          have HEE := HE.out false true _ _ _ _ _ _ HWN.out HIU.out rfl
          exact bodyPost_end (v := .tuple #[]) (by simp [results, Tryz.results117]) rfl ⟨rfl, _, _, by rw [HEE]; exact HLU.out, by rw [HEE]; exact fun _ => rfl⟩
      | false =>
        go_upto_region 13 with fail
        have HLU := HLW
        clear HLW
        skip
        have d22 := HLU.out.f22
        cases bp with
        | true =>
          obtain ⟨PW, hPW⟩ : ∃ U, (s9.run (longR false)).val ⟨#[]⟩ = U := ⟨_, rfl⟩
          obtain ⟨s11, hs11⟩ : ∃ s, (s9.run (longR false)).st = s := ⟨_, rfl⟩
          have HT0 := fun (W : World) (hr : RdOf true W g s9) => bin_next g s9 W hr
          rw [hPW, hs11] at HT0
          have HIP : Hid (ifR true false s9 = (PW, s11)) := by show _ = _; rw [← hPW, ← hs11]; rfl
          have HT := Lib.hid HT0
          clear hPW hs11 HT0
          go_wp2_with fail
          refine (HT.out _ HLU.out.rd).mono ?_
          rintro r wp ⟨rfl, k1, k2⟩
          have HLX := Lib.hid (HLU.out.bar k2 k1)
          clear k1 k2 HLU d22
          have d23 := HLX.out.f23
          have f23 := HLX.out.frozen 23
          have HLP := Lib.hid (HLX.out.put1 23 (.string PW) { zp 1 with clean := bc, hp := true, hu := false, w := { W0 with ps := WL, t := WT, b := WB }, keep := K, ps := L, cl := C, pw := PW } rfl rfl rfl rfl rfl)
          go_wp2_with fail
          have HEE := HE.out true false _ _ _ _ _ _ HWN.out rfl HIP.out
          exact bodyPost_end (v := .tuple #[]) (by simp [results, Tryz.results117]) rfl ⟨rfl, _, _, by rw [HEE]; exact HLP.out, by rw [HEE]; exact fun _ => rfl⟩
        | false =>
          go_wp2_with fail
          have HEE := HE.out false false _ _ _ _ _ _ HWN.out rfl rfl
          exact bodyPost_end (v := .tuple #[]) (by simp [results, Tryz.results117]) rfl ⟨rfl, _, _, by rw [HEE]; exact HLU.out, by rw [HEE]; exact fun _ => rfl⟩
theorem parts_1 (B g h : Nat) (w0 : World) (st : St) (a : Ad) (w : World) (hl : Live true B w0 g h st (zp 1) a w) :
    Calls Tryz.prog 97 #[.pointer (some ⟨g, 0, none⟩), .pointer (some ⟨h, 0, none⟩)] w (Done true B w0 g h (connectS (zp 1) st)) := by
  have dk : w.cell? ⟨h, 0, none⟩ = some (.int .i64 1) := hl.f0
  have HR := Lib.hid (connect_is B g h w0 st a w hl)
  clear hl
  go_enter Tryz.func97, Tryz.ntmps97
  go_wp2_with fail
  refine HR.out.mono ?_
  rintro r w2 ⟨rfl, p', a', k1, k2⟩
  have K1 := Lib.hid k1
  have K2 := Lib.hid k2
  clear k1 k2 dk
  go_wp2_with fail
  exact bodyPost_end (v := .tuple #[]) (by simp [results, Tryz.results97]) rfl ⟨rfl, p', a', K1.out, K2.out⟩
end Go.Proofs.YtiancngpknnkaaaGreat
