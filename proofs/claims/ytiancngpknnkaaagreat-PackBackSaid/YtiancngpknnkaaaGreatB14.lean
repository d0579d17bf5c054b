/- Package prop: the bytes of properties at a place. -/
import Derived.Test.YtiancngpknnkaaaGreatB12
import Derived.Test.YtiancngpknnkaaaGreatB13
import Derived.Test.YtiancngpknnkaaaGreatB07
import Derived.Test.YtiancngpknnkaaaGreatB08
import Derived.Test.YtiancngpknnkaaaGreatB04
import Derived.IntWalk
import Derived.Test.YtiancngpknnkaaaGreatB05
import Derived.Test.YtiancngpknnkaaaGreatB01
import Derived.Test.YtiancngpknnkaaaGreatB02
import Derived.Shelf.Strings.Builder1
import Derived.Test.YtiancngpknnkaaaGreatB10
import Derived.Deep.RegionHeld3
set_option maxRecDepth 100000
set_option maxHeartbeats 64000000
namespace Go.Proofs.YtiancngpknnkaaaGreat
open Go.RowKit Go.Lib Prp Pkt Vbi
def GivesFilters (R : Res (List Fl)) (g : Nat) (w : World) (r : Ending) (w' : World) : Prop :=
  ∃ L A c, r = .returned (.slice A (List.length L) c) ∧ L.length ≤ c ∧ New w.heap.size A ∧ FilsAt w' w'.heap.size A L ∧ RdOf true w' g R.st ∧ Bar g w w' ∧ (R.st.isBad = false → L = R.val [])
theorem many_fil (G g : Nat) (sub : Bool) (st : St) (w : World) (hG : NextFil G g sub) (hcf : ∀ W : World, (callFunc G #[.pointer (some ⟨g, 0, none⟩)]).run Tryz.prog W = .ok (.enter G #[.pointer (some ⟨g, 0, none⟩)]) W) (hr : RdOf true w g st) :
    Calls Tryz.prog 125 #[.pointer (some ⟨g, 0, none⟩), .func (.func G) #[.pointer (some ⟨g, 0, none⟩)] #[]] w (GivesFilters (st.run (manyR (filterR sub) 5 [])) g w) := by
  obtain ⟨i0, hi, hz0, hz1, hz2⟩ := info_parts info_fil
  have HS := Lib.hid (goes_start (filterR sub) st)
  obtain ⟨F, hF⟩ : ∃ F, st.run (manyR (filterR sub) 5 []) = F := ⟨_, rfl⟩
  rw [hF] at HS ⊢
  clear hF
  have HGG := Lib.hid hG
  have hgl := hr.lt
  have HR := Lib.hid hr
  clear hr hG
  go_enter Tryz.func125, Tryz.ntmps125
  go_wp2_with fail
  go_loopw [5] (fun m wr => ∃ (l : List Fl) (A : Option Addr) (c : Nat) (sc : St), l.length ≤ 4 ∧ m = .slice A l.length c ∧ wr.ownsRow w.heap.size 77 5 (.slice A l.length c) l.length (flatF l) ∧ RdOf true wr g sc ∧ Bar g w wr ∧ Goes (filterR sub) F l sc) (fun m _ => 5 - sliceLen m)
  case atStart => exact ⟨[], none, 0, st, Nat.zero_le _, rfl, World.ownsRow_nil _ _ _ _, HR.out, Bar.refl _ _, HS.out⟩
  case round =>
    obtain ⟨l, A, c, sc, hl4, rfl, hown, hrd, hbar, hgo⟩ := hrel
    have c0 := hrd.at0
    have hsz := hbar.size
    obtain ⟨s, hs⟩ : ∃ s, sc.rest = s := ⟨_, rfl⟩
    rw [hs] at c0
    have HO := Lib.hid hown
    have HD := Lib.hid hrd
    have HB := Lib.hid hbar
    have HG := Lib.hid hgo
    clear hown hrd hbar hgo HS HR
    by_cases h0 : s.size = 0
    · obtain rfl : s = ByteArray.empty := ByteArray.size_eq_zero_iff.1 h0
      by_cases hl0 : l.length = 0
      · obtain rfl : l = [] := List.eq_nil_of_length_eq_zero hl0
        have HF : Hid (F.st = sc.want false 9) := by
          show _ = _
          cases sc with
          | ok s' =>
            have hg : F = manyR (filterR sub) (4 + 1) [] s' := HG.out
            have hs' : s' = ByteArray.empty := hs
            rw [hg, many_stop (by rw [hs']; rfl)]
            rfl
          | bad e => have hg : F = .bad e := HG.out; rw [hg]; rfl
        have HX := Lib.hid (fun (W : World) (h : RdOf true W g sc) => fail_st g sc 9 W (by decide) h)
        clear hs h0 hl0
        go_wp2_with fail
        refine (HX.out _ HD.out).mono ?_
        rintro r w1 ⟨rfl, k1, k2⟩
        have K1 := Lib.hid k1
        have K2 := Lib.hid k2
        clear k1 k2 c0
        go_wp2_with fail
        go_ret
        refine ⟨[], A, c, rfl, Nat.zero_le _, own_new HO.out, .inl rfl, by rw [HF.out]; exact K1.out, HB.out.trans K2.out, fun hb => ?_⟩
        rw [HF.out] at hb
        cases sc <;> cases hb
      · have HF : Hid (F.st = sc ∧ (F.st.isBad = false → l = F.val [])) := by
          show _ ∧ _
          cases sc with
          | ok s' =>
            have hg : F = manyR (filterR sub) (5 - l.length) l s' := HG.out
            have hs' : s' = ByteArray.empty := hs
            obtain ⟨f, hf⟩ : ∃ f, 5 - l.length = f + 1 := ⟨4 - l.length, by omega⟩
            rw [hf, many_stop (by rw [hs']; rfl), if_neg hl0] at hg
            rw [hg]
            exact ⟨rfl, fun _ => rfl⟩
          | bad e =>
            have hg : F = .bad e := HG.out
            rw [hg]
            exact ⟨rfl, fun hb => by cases hb⟩
        have hlI : ((l.length : Int) == 0) = false := ne_false (by omega)
        clear hs h0
        go_wp2_with fail
        go_ret
        exact ⟨l, A, c, rfl, own_room HO.out, own_new HO.out, FilsAt.of_own HO.out, by rw [HF.out.1]; exact HD.out, HB.out, HF.out.2⟩
    · obtain ⟨hne, hne2⟩ := size_facts h0
      obtain ⟨s', rfl⟩ : ∃ s', sc = .ok s' := by
        cases sc with
        | ok s' => exact ⟨s', rfl⟩
        | bad e => exact absurd (by rw [← hs]; rfl) h0
      obtain rfl : s' = s := hs
      have HG2 : Hid (F = manyR (filterR sub) (5 - l.length) l s') := HG.out
      clear HG
      obtain ⟨f, hf⟩ : ∃ f, 5 - l.length = f + 1 := ⟨4 - l.length, by omega⟩
      by_cases hl : l.length = 4
      · have HF : Hid (F = .bad 2) := by show _ = _; rw [HG2.out, hf, many_full h0 hl]
        have HX := Lib.hid (fun (W : World) (h : RdOf true W g (.ok s')) => fail_st g (.ok s') 2 W (by decide) h)
        have hlI : ((l.length : Int) == 4) = true := beq_iff_eq.2 (by omega)
        have hlI0 : ((l.length : Int) == 0) = false := ne_false (by omega)
        go_wp2_with fail
        refine (HX.out _ HD.out).mono ?_
        rintro r w1 ⟨rfl, k1, k2⟩
        have K1 := Lib.hid k1
        have K2 := Lib.hid k2
        clear k1 k2 c0
        go_wp2_with fail
        go_ret
        refine ⟨l, A, c, by rw [hl]; rfl, own_room HO.out, own_new HO.out, (fils_bar (FilsAt.of_own HO.out) (Nat.le_refl _) ((own_new HO.out).off hgl) K2.out).mono K2.out.size, by rw [HF.out]; exact K1.out, HB.out.trans K2.out, fun hb => ?_⟩
        rw [HF.out] at hb
        cases hb
      · obtain ⟨v, s1, hv⟩ : ∃ v s1, filterS sub (.ok s') = (v, s1) := ⟨_, _, rfl⟩
        have HO1 := HGG.out (.ok s') wr HD.out
        rw [hv] at HO1
        unfold fagg at HO1
        have HC := Lib.hid HO1
        have HG3 : Hid (Goes (filterR sub) F (l ++ [v]) s1) := by
          cases s1 with
          | ok s1 =>
            have hrun : filterR sub s' = .ok v s1 := by unfold filterR; rw [hv]
            show F = manyR (filterR sub) (5 - (l ++ [v]).length) (l ++ [v]) s1
            rw [HG2.out, hf, many_step h0 hl hrun, List.length_append]
            congr 1
            simp
            omega
          | bad e =>
            have hrun : filterR sub s' = .bad e := by unfold filterR; rw [hv]
            show F = .bad e
            rw [HG2.out, hf, many_err h0 hl hrun]
        have hlI : ((l.length : Int) == 4) = false := ne_false (by omega)
        clear HO1 hv
        go_wp2_with fail
        refine HC.out.mono ?_
        rintro r w1 ⟨rfl, k1, k2⟩
        have K1 := Lib.hid k1
        have K2 := Lib.hid k2
        clear k1 k2 c0
        have HO2 := Lib.hid (own_bar HO.out K2.out hgl)
        have hz1' := K2.out.size
        have hlen : Hid ((l ++ [v]).length = l.length + 1) := by show _ = _; simp
        go_wp2_with (at_builtin; refine wpList_append_own _ rfl _ _ 25 rfl w.heap.size 77 i0 (.agg #[.string ⟨#[]⟩, .int .i64 0, .bool false, .bool false, .int .i64 0]) 5 40 Tryz.underlying25 hi hz0 hz1 hz2 rfl (by decide) _ _ _ rfl (HO2.out.alloc _) ⟨w1.heap.size, 0, none⟩ 1 1 (fcells v) rfl rfl ?c1 ?c2 ?c3 ?c4 ?c5 ?_)
        case c1 => exact fun j u hu => cells_new _ _ _ j u hu
        case c2 => exact one_fcells _
        case c3 => unfold maxLen; omega
        case c4 => omega
        case c5 => simp; omega
        intro v' w2 hown' hgrow _
        have hbl := below_alloc_grown (by omega : w.heap.size ≤ w1.heap.size) HO2.out hgrow
        have HOW : Hid (w2.ownsRow w.heap.size 77 5 v' (l ++ [v]).length (flatF (l ++ [v]))) := by
          show World.ownsRow _ _ _ _ _ _ _
          rw [hlen.out, flatF_snoc]
          exact hown'
        have HBW : Hid (Below w.heap.size w1 w2) := hbl
        clear hown' hgrow hbl HO HO2
        obtain ⟨A', c', hv⟩ := ownF_slice HOW.out
        subst hv
        go_wp2
        go_roundw
        case rel => exact ⟨l ++ [v], A', c', s1, by rw [hlen.out]; omega, rfl, HOW.out, K1.out.then_ HBW.out hgl, (HB.out.trans K2.out).then_ HBW.out, HG3.out⟩
        case measure => rw [hlen.out]; simp [sliceLen]; omega
theorem parts_8 (B g h : Nat) (w0 : World) (st : St) (p : Pk) (a : Ad) (w : World) (hk : p.kind = 8) (hl : Live true B w0 g h st p a w) :
    Calls Tryz.prog 97 #[.pointer (some ⟨g, 0, none⟩), .pointer (some ⟨h, 0, none⟩)] w (Done true B w0 g h (askS true p st)) := by
  have dk := hl.f0
  have HO0 := number_next g st w hl.rd
  obtain ⟨n0, hn0⟩ : ∃ n, (st.run numberR).val 0 = n := ⟨_, rfl⟩
  obtain ⟨s1, hs1⟩ : ∃ s, (st.run numberR).st = s := ⟨_, rfl⟩
  rw [hs1, hn0] at HO0
  obtain ⟨L, hL⟩ : ∃ L, (s1.run (propsR p.kind)).val [] = L := ⟨_, rfl⟩
  obtain ⟨s2, hs2⟩ : ∃ s, (s1.run (propsR p.kind)).st = s := ⟨_, rfl⟩
  have H20 := fun (W : World) (hr : RdOf true W g s1) => pprops_st p.kind g s1 W hr
  rw [hL, hs2] at H20
  obtain ⟨F, hF⟩ : ∃ F, s2.run (manyR (filterR true) 5 []) = F := ⟨_, rfl⟩
  have H30 := fun (W : World) (hr : RdOf true W g s2) => many_fil 126 g true s2 W (filter_is g) (fun W => by go_simp) hr
  rw [hF] at H30
  have HE : Hid (askS true p st = ({ p with id := n0, ps := L, fs := F.val [] }, F.st)) := by
    subst hF hs2 hL hs1 hn0
    rfl
  have HO := Lib.hid HO0
  have H2 := Lib.hid H20
  have H3 := Lib.hid H30
  have HL := Lib.hid hl
  clear hl HO0 H20 H30 hn0 hs1 hL hs2 hF
  have hmf : ∀ (fn : Fn) (first cap : Array Value) (w : World), (Instr.makeFunc fn first cap).run Tryz.prog w = .ok (.func fn first cap) w := fun _ _ _ _ => rfl
  · skip
    rw [hk] at H2
    rw [hk] at dk
    have HK := Lib.hid hk
    clear hk
    go_enter Tryz.func97, Tryz.ntmps97
    go_wp2_with fail
    refine HO.out.mono ?_
    rintro r w1 ⟨rfl, k1, k2⟩
    have HL1 := Lib.hid (HL.out.bar k2 k1)
    clear k1 k2 HO HL dk
    have d0 := HL1.out.f0
    rw [HK.out] at d0
    have d4 := HL1.out.f4
    have f4 := HL1.out.frozen 4
    have HL2 := Lib.hid (HL1.out.put1 4 (.int .i64 n0) { p with id := n0 } rfl rfl rfl rfl rfl)
    go_wp2_with fail
    refine (H2.out _ HL2.out.rd).mono ?_
    rintro r w2 ⟨A, c, rfl, k1, k2, k3, k4, k5⟩
    have HL3 := Lib.hid (HL2.out.bar k5 k4)
    have HN := Lib.hid (HL2.out.off k2)
    have HA := Lib.hid k3
    have HC := Lib.hid k1
    clear k1 k2 k3 k4 k5 d0 d4 f4 HL1 HL2 H2
    have d24 := HL3.out.f24
    have f24 := HL3.out.frozen 24
    have HL4 := Lib.hid (HL3.out.props HA.out HN.out HC.out)
    go_wp2_with fail
    refine (H3.out _ HL4.out.rd).mono ?_
    rintro r w3 ⟨M, A2, c2, rfl, k1, k2, k3, k4, k5, k6⟩
    have HL5 := Lib.hid (HL4.out.bar k5 k4)
    have HN2 := Lib.hid (HL4.out.off k2)
    have HA2 := Lib.hid k3
    have HM := Lib.hid k6
    have HC2 := Lib.hid k1
    clear k1 k2 k3 k4 k5 k6 d24 f24 HL3 HL4 H3
    have d10 := HL5.out.f10
    have f10 := HL5.out.frozen 10
    go_wp2_with fail
    refine bodyPost_end (v := .tuple #[]) (by simp [results, Tryz.results97]) rfl ⟨rfl, { p with id := n0, ps := L, fs := M }, { a with pa := A, pc := c, fa := A2, fc := c2 }, ?_, ?_⟩
    · rw [HE.out]; exact HL5.out.filters HA2.out HN2.out HC2.out
    · rw [HE.out]; exact fun hb => by rw [HM.out hb]
theorem parts_10 (B g h : Nat) (w0 : World) (st : St) (p : Pk) (a : Ad) (w : World) (hk : p.kind = 10) (hl : Live true B w0 g h st p a w) :
    Calls Tryz.prog 97 #[.pointer (some ⟨g, 0, none⟩), .pointer (some ⟨h, 0, none⟩)] w (Done true B w0 g h (askS false p st)) := by
  have dk := hl.f0
  have HO0 := number_next g st w hl.rd
  obtain ⟨n0, hn0⟩ : ∃ n, (st.run numberR).val 0 = n := ⟨_, rfl⟩
  obtain ⟨s1, hs1⟩ : ∃ s, (st.run numberR).st = s := ⟨_, rfl⟩
  rw [hs1, hn0] at HO0
  obtain ⟨L, hL⟩ : ∃ L, (s1.run (propsR p.kind)).val [] = L := ⟨_, rfl⟩
  obtain ⟨s2, hs2⟩ : ∃ s, (s1.run (propsR p.kind)).st = s := ⟨_, rfl⟩
  have H20 := fun (W : World) (hr : RdOf true W g s1) => pprops_st p.kind g s1 W hr
  rw [hL, hs2] at H20
  obtain ⟨F, hF⟩ : ∃ F, s2.run (manyR (filterR false) 5 []) = F := ⟨_, rfl⟩
  have H30 := fun (W : World) (hr : RdOf true W g s2) => many_fil 127 g false s2 W (topic_is g) (fun W => by go_simp) hr
  rw [hF] at H30
  have HE : Hid (askS false p st = ({ p with id := n0, ps := L, fs := F.val [] }, F.st)) := by
    subst hF hs2 hL hs1 hn0
    rfl
  have HO := Lib.hid HO0
  have H2 := Lib.hid H20
  have H3 := Lib.hid H30
  have HL := Lib.hid hl
  clear hl HO0 H20 H30 hn0 hs1 hL hs2 hF
  have hmf : ∀ (fn : Fn) (first cap : Array Value) (w : World), (Instr.makeFunc fn first cap).run Tryz.prog w = .ok (.func fn first cap) w := fun _ _ _ _ => rfl
  · skip
    rw [hk] at H2
    rw [hk] at dk
    have HK := Lib.hid hk
    clear hk
    go_enter Tryz.func97, Tryz.ntmps97
    go_wp2_with fail
    refine HO.out.mono ?_
    rintro r w1 ⟨rfl, k1, k2⟩
    have HL1 := Lib.hid (HL.out.bar k2 k1)
    clear k1 k2 HO HL dk
    have d0 := HL1.out.f0
    rw [HK.out] at d0
    have d4 := HL1.out.f4
    have f4 := HL1.out.frozen 4
    have HL2 := Lib.hid (HL1.out.put1 4 (.int .i64 n0) { p with id := n0 } rfl rfl rfl rfl rfl)
    go_wp2_with fail
    refine (H2.out _ HL2.out.rd).mono ?_
    rintro r w2 ⟨A, c, rfl, k1, k2, k3, k4, k5⟩
    have HL3 := Lib.hid (HL2.out.bar k5 k4)
    have HN := Lib.hid (HL2.out.off k2)
    have HA := Lib.hid k3
    have HC := Lib.hid k1
    clear k1 k2 k3 k4 k5 d0 d4 f4 HL1 HL2 H2
    have d24 := HL3.out.f24
    have f24 := HL3.out.frozen 24
    have HL4 := Lib.hid (HL3.out.props HA.out HN.out HC.out)
    go_wp2_with fail
    refine (H3.out _ HL4.out.rd).mono ?_
    rintro r w3 ⟨M, A2, c2, rfl, k1, k2, k3, k4, k5, k6⟩
    have HL5 := Lib.hid (HL4.out.bar k5 k4)
    have HN2 := Lib.hid (HL4.out.off k2)
    have HA2 := Lib.hid k3
    have HM := Lib.hid k6
    have HC2 := Lib.hid k1
    clear k1 k2 k3 k4 k5 k6 d24 f24 HL3 HL4 H3
    have d10 := HL5.out.f10
    have f10 := HL5.out.frozen 10
    go_wp2_with fail
    refine bodyPost_end (v := .tuple #[]) (by simp [results, Tryz.results97]) rfl ⟨rfl, { p with id := n0, ps := L, fs := M }, { a with pa := A, pc := c, fa := A2, fc := c2 }, ?_, ?_⟩
    · rw [HE.out]; exact HL5.out.filters HA2.out HN2.out HC2.out
    · rw [HE.out]; exact fun hb => by rw [HM.out hb]
open Go.RowKit Go.Lib Prp Pkt Vbi
theorem headP_kind (c : Int) : (headP c).kind = c / 16 := by
  unfold headP
  by_cases h : c / 16 = 3
  · rw [if_pos h, h]; rfl
  · rw [if_neg h]; rfl
theorem parts_is (B g h : Nat) (w0 : World) (st : St) (c : Int) (w : World) (h0 : 0 ≤ c) (h1 : c ≤ 255) (hl : Live true B w0 g h st (headP c) za w) :
    Calls Tryz.prog 97 #[.pointer (some ⟨g, 0, none⟩), .pointer (some ⟨h, 0, none⟩)] w (Done true B w0 g h (partsS (headP c) st)) := by
  have hk := headP_kind c
  unfold partsS
  by_cases k1 : (headP c).kind = 1
  · rw [if_pos k1]
    have e : headP c = zp 1 := by rw [headP_k (by omega), ← hk, k1]
    rw [e] at hl ⊢
    exact parts_1 B g h w0 st za w hl
  rw [if_neg k1]
  by_cases k2 : (headP c).kind = 2
  · rw [if_pos k2]; exact pparts_2 B g h w0 st _ za w k2 hl
  rw [if_neg k2]
  by_cases k3 : (headP c).kind = 3
  · rw [if_pos k3]; exact parts_3 B g h w0 st _ za w k3 hl
  rw [if_neg k3]
  by_cases k4 : (headP c).kind = 4 ∨ (headP c).kind = 5 ∨ (headP c).kind = 6 ∨ (headP c).kind = 7
  · rw [if_pos k4]; exact parts_id B g h w0 st _ za w k4 hl
  rw [if_neg k4]
  by_cases k8 : (headP c).kind = 8
  · rw [if_pos k8]; exact parts_8 B g h w0 st _ za w k8 hl
  rw [if_neg k8]
  by_cases k10 : (headP c).kind = 10
  · rw [if_pos k10]; exact parts_10 B g h w0 st _ za w k10 hl
  rw [if_neg k10]
  by_cases k9 : (headP c).kind = 9 ∨ (headP c).kind = 11
  · rw [if_pos k9]; exact parts_codes B g h w0 st _ za w k9 hl
  rw [if_neg k9]
  by_cases k14 : (headP c).kind = 14 ∨ (headP c).kind = 15
  · rw [if_pos k14]; exact parts_14 B g h w0 st _ za w k14 hl
  rw [if_neg k14]
  exact parts_none B g h w0 st _ za w (by omega) hl
theorem PkNew.mono {B B' : Nat} {a : Ad} (h : PkNew B a) (hB : B' ≤ B) : PkNew B' a := ⟨h.ca.mono hB, h.fa.mono hB, h.wa.mono hB, h.pa.mono hB⟩
def NoRows (p : Pk) : Prop := p.cs = [] ∧ p.fs = [] ∧ p.w.ps = [] ∧ p.ps = []
theorem PkAt.zero' (w : World) (B : Nat) (p : Pk) (h : NoRows p) : PkAt w B p za := ⟨.inl h.1, .inl h.2.1, .inl h.2.2.1, .inl h.2.2.2⟩
theorem PkCap.zero' (p : Pk) (h : NoRows p) : PkCap p za := ⟨by rw [h.1]; exact Nat.le_refl _, by rw [h.2.1]; exact Nat.le_refl _, by rw [h.2.2.1]; exact Nat.le_refl _, by rw [h.2.2.2]; exact Nat.le_refl _⟩
theorem head_rows (c : Int) : NoRows (headP c) := by
  unfold headP
  split <;> exact ⟨rfl, rfl, rfl, rfl⟩
@[irreducible] def EndAt (x : Bool) (w : World) (k0 g h : Nat) (st : St) (p : Pk) (a : Ad) (cs : Array Value) (W : World) : Prop :=
  RdOf x W g st ∧ Box W h (pkArr p a) ∧ PkAt W W.heap.size p a ∧ Box W k0 cs ∧ cs.size = 25 ∧ Below w.heap.size w W ∧ w.heap.size ≤ k0 ∧ k0 ≠ g ∧ k0 ≠ h ∧ PkOff k0 a
section
variable {x : Bool} {w W W' : World} {k0 g h : Nat} {st : St} {p : Pk} {a : Ad} {cs : Array Value}
theorem EndAt.mk (k : RdOf x W g st ∧ Box W h (pkArr p a) ∧ PkAt W W.heap.size p a ∧ Box W k0 cs ∧ cs.size = 25 ∧ Below w.heap.size w W ∧ w.heap.size ≤ k0 ∧ k0 ≠ g ∧ k0 ≠ h ∧ PkOff k0 a) : EndAt x w k0 g h st p a cs W := by unfold EndAt; exact k
theorem EndAt.out (k : EndAt x w k0 g h st p a cs W) : RdOf x W g st ∧ Box W h (pkArr p a) ∧ PkAt W W.heap.size p a ∧ Box W k0 cs ∧ cs.size = 25 ∧ Below w.heap.size w W ∧ w.heap.size ≤ k0 ∧ k0 ≠ g ∧ k0 ≠ h ∧ PkOff k0 a := by unfold EndAt at k; exact k
theorem EndAt.drew (k : EndAt x w k0 g h st p a cs W) : EndAt x w k0 g h st p a cs (W.drewN 1) := by
  obtain ⟨h1, h2, h3, h4, h5, h6, h7, h8, h9, h10⟩ := k.out
  exact .mk ⟨h1.below (below_drewN (Below.refl _ _) 1), h2.drewN 1, h3.below (below_drewN (Below.refl _ _) 1), h4.drewN 1, h5, below_drewN h6 1, h7, h8, h9, h10⟩
theorem EndAt.row (k : EndAt x w k0 g h st p a cs W) : EndAt x w k0 g h st p a (pkArr p a) (W.setRow k0 (pkArr p a)) := by
  obtain ⟨h1, h2, h3, h4, h5, h6, h7, h8, h9, h10⟩ := k.out
  have hb := Bar.row k0 W (pkArr p a)
  refine .mk ⟨h1.map fun _ _ r => hb.box r h8.symm, hb.box h2 h9.symm, pk_bar h3 h10 hb, h4.row _, rfl, hb.below h6 h7 ?_, h7, h8, h9, h10⟩
  have := h4.lt
  omega
theorem EndAt.err (k : EndAt x w k0 g h st p a cs W) : W.cell? ⟨g, 1, none⟩ = some (.int .i64 st.err) := by
  obtain ⟨s, hs, _⟩ := k.out.1.rd
  exact hs.cell 1
end
def GivesBody (R : Pk × St) (w : World) (r : Ending) (w' : World) : Prop :=
  ∃ p a, r = .returned (.tuple #[.agg (pkArr p a), .int .i64 R.2.err]) ∧ PkAt w' w'.heap.size p a ∧ PkCap p a ∧ PkNew w.heap.size a ∧ Below w.heap.size w w' ∧ R.2.Wf ∧ (R.2.isBad = false → p = R.1)
theorem packAll_is (c : Int) (s : ByteArray) (w : World) (h0 : 0 ≤ c) (h1 : c ≤ 255) (hs : s.size ≤ 268435456) :
    Calls Tryz.prog 61 #[.int .i64 c, .string s] w (GivesBody (bodyS c s) w) := by
  obtain ⟨so, hso⟩ : ∃ so, (if headB c = true then St.ok s else .bad 8) = so := ⟨_, rfl⟩
  have HS := Lib.hid (fun (g : Nat) (W : World) (hr : RdOf true W g (.ok s)) => sent_is g c s W h0 h1 hr)
  rw [hso] at HS
  have HP := Lib.hid (fun (B g h : Nat) (w0 W : World) (hl : Live true B w0 g h so (headP c) za W) => parts_is B g h w0 so c W h0 h1 hl)
  obtain ⟨R, hR⟩ : ∃ R, partsS (headP c) so = R := ⟨_, rfl⟩
  rw [hR] at HP
  have HE : Hid (bodyS c s = (R.1, R.2.want (decide (R.2.rest.size = 0)) 8)) := by subst hR hso; rfl
  have HZ0 := head_rows c
  obtain ⟨p0, hp0⟩ : ∃ p, headP c = p := ⟨_, rfl⟩
  rw [hp0] at HS HP HZ0
  have HZ := Lib.hid HZ0
  clear hso hR hp0 HZ0
  have hb0 := Box.new w 30 (pkArr (zp 0) za)
  have ha := (Below.refl w.heap.size w).alloc (Nat.le_refl _) (.cells (pkArr (zp 0) za) 30)
  obtain ⟨W1, hW⟩ : ∃ W1, w.alloc (.cells (pkArr (zp 0) za) 30) = W1 := ⟨_, rfl⟩
  rw [hW] at hb0 ha
  simp only [pkArr, zp, za, zw, List.length_nil] at hW
  have HW := Lib.hid hW
  have HK0 := Lib.hid hb0
  have HA := Lib.hid ha
  clear hW hb0 ha
  go_enter Tryz.func61, Tryz.ntmps61
  go_upto_region 1 with fail
  rw [HW.out]
  clear HW
  obtain ⟨k0, hk0⟩ : ∃ k, w.heap.size = k := ⟨_, rfl⟩
  have HKK := Lib.hid hk0
  rw [hk0] at HK0 ⊢
  clear hk0
  have hkl := HK0.out.lt
  go_upto_region 2 with fail
  have hr2 : RdOf true (W1.alloc (.cells #[.string s, .int .i64 0] 129)) W1.heap.size (.ok s) := ⟨Box.new W1 129 #[.string s, .int .i64 0], hs⟩
  have ha2 := (Below.refl W1.heap.size W1).alloc (Nat.le_refl _) (.cells #[.string s, .int .i64 0] 129)
  obtain ⟨g, hg⟩ : ∃ g, W1.heap.size = g := ⟨_, rfl⟩
  have HG := Lib.hid hg
  rw [hg] at hr2 ha2 ⊢
  rw [hg] at hkl
  clear hg
  have HR2 := Lib.hid hr2
  have HA2 := Lib.hid ha2
  clear hr2 ha2
  generalize W1.alloc _ = W2 at HR2 HA2 ⊢
  have hgl := HR2.out.lt
  go_wp2_with fail
  refine (HS.out g _ HR2.out).mono ?_
  rintro r w3 ⟨rfl, q1, q2⟩
  have hb0 := Box.new w3 30 (pkArr (zp 0) za)
  have ha := (Below.refl w3.heap.size w3).alloc (Nat.le_refl _) (.cells (pkArr (zp 0) za) 30)
  obtain ⟨W4, hW⟩ : ∃ W4, w3.alloc (.cells (pkArr (zp 0) za) 30) = W4 := ⟨_, rfl⟩
  rw [hW] at hb0 ha
  simp only [pkArr, zp, za, zw, List.length_nil] at hW
  have HW := Lib.hid hW
  have HB4 := Lib.hid hb0
  have hz3 := q2.size
  have hb3 := (Bar.below HA2.out q2 (Nat.le_refl g) (by omega)).alloc (by omega) (.cells (pkArr (zp 0) za) 30)
  have hl3 : g < w3.heap.size := by omega
  have hr4 := q1.below ha
  obtain ⟨h, hh⟩ : ∃ h, w3.heap.size = h := ⟨_, rfl⟩
  rw [hh] at HB4 hl3
  have hgh : g ≠ h := by omega
  have hW4 : w3.alloc (.cells (pkArr (zp 0) za) 30) = W4 := by simp only [pkArr, zp, za, zw, List.length_nil]; exact hW
  rw [hW4] at hb3
  have hrow := Bar.row h W4 (pkArr p0 za)
  have HL5 := Lib.hid (Live.mk (x := true) (B := g) (w0 := W1) (g := g) (h := h) (st := so) (p := p0) (a := za) ⟨hrow.below hb3 (by omega) (by have := ha.size; omega), Nat.le_refl _, by omega, hgh, hr4.map fun _ _ r => hrow.box r hgh, HB4.out.row _, PkAt.zero' _ _ p0 HZ.out, .zero g, .zero h, PkCap.zero' p0 HZ.out, .zero g⟩)
  clear hW hW4 hb0 ha q1 q2 hb3 hr4 hrow HS HR2 HA2 hgl hz3
  go_upto_region 3 with (rw [HW.out]; refine wpList_store_whole rfl 30 (.tmp 7) (.tmp 13) rfl h (pkArr p0 za) rfl rfl (pkArr (zp 0) za) HB4.out info_pk rfl (one_pk _ _) ?_; simp only [Act.put])
  clear HW HB4 hh
  generalize World.setRow _ _ _ = W5 at HL5 ⊢
  have HK5 : Hid (Box W5 k0 (pkArr (zp 0) za)) := Lib.hid (HK0.out.below (HL5.out.b.mono (by have := HG.out; omega)))
  go_wp2_with fail
  refine (HP.out g g h W1 W5 HL5.out).mono ?_
  rintro r w6 ⟨rfl, pf, af, q1, q2⟩
  have HL6 := Lib.hid q1
  have HPP := Lib.hid q2
  have HK6 : Hid (Box w6 k0 (pkArr (zp 0) za)) := Lib.hid (HK0.out.below (q1.b.mono (by have := HG.out; omega)))
  clear q1 q2 HL5 HK5 HP
  obtain ⟨R1, R2⟩ := R
  have e0 : w6.cell? ⟨g, 0, none⟩ = some (.string R2.rest) := HL6.out.rd.at0
  by_cases hz : R2.rest.size = 0
  · have hre : R2.rest = ByteArray.empty := ByteArray.size_eq_zero_iff.1 hz
    rw [hre] at e0
    have HQ : Hid ((bodyS c s).2 = R2) := by show _ = _; rw [HE.out]; show R2.want (decide (R2.rest.size = 0)) 8 = R2; rw [decide_eq_true hz, want_true]
    have HPQ : Hid (R2.isBad = false → pf = R1) := HPP.out
    clear hz hre
    go_upto_region 6 with fail
    have HL8 := HL6
    have HK8 := HK6
    clear HL6 HK6 e0 HPP
    have HCAP := Lib.hid HL8.out.cap
    have HNEW := Lib.hid (HL8.out.new.mono (B' := w.heap.size) (by have := HKK.out; omega))
    have HWF : Hid ((bodyS c s).2.Wf) := by show St.Wf _; rw [HQ.out]; exact HL8.out.wf
    have HRES : Hid (Ending.returned (.tuple #[.agg (pkArr pf af), .int .i64 (R2).err]) = .returned (.tuple #[.agg (pkArr pf af), .int .i64 (bodyS c s).2.err])) := by show _ = _; rw [HQ.out]
    have HPF : Hid ((bodyS c s).2.isBad = false → pf = (bodyS c s).1) := fun hb => by
      rw [HQ.out] at hb
      rw [HE.out]
      exact HPQ.out hb
    have HEN := Lib.hid (EndAt.mk (w := w) (k0 := k0) (g := g) (h := h) (st := R2) (p := pf) (a := af) (cs := pkArr (zp 0) za) ⟨HL8.out.rd, HL8.out.bx, HL8.out.at, HK8.out, rfl, (HA.out.trans (HL8.out.b.mono (by have := HKK.out; omega))), by have := HKK.out; omega, by omega, by omega, HL8.out.new.off hkl⟩)
    clear HL8 HK8
    refine wp_region_held_drew (S := fun W => ∃ cs, EndAt true w k0 g h R2 pf af cs W) (by kernel_rfl) ⟨_, HEN.out.drew⟩ (fun hHeld => ?_)
    generalize World.drew _ = Wd at hHeld ⊢
    refine take_load 0 23 30 (.tmp 7) h 0 (.agg (pkArr pf af)) rfl rfl (by kernel_rfl) (fun _ _ _ h => h) (by rfl) hHeld rfl rfl (fun w' hS' => load_bx hS'.choose_spec.out.2.1) ?_
    simp only [Act.put, List.setIfInBounds_toArray, List.set_cons_zero, List.set_cons_succ]
    refine take_op 1 24 ?v1 rfl rfl (by kernel_rfl) (fun _ _ _ h => h) (by rfl) hHeld (fun w' hS' => ?hv1) ?hh1
    case hv1 => (go_simp; try with_reducible rfl)
    simp only [Act.put, List.setIfInBounds_toArray, List.set_cons_zero, List.set_cons_succ]
    refine take_op 2 25 ?v2 rfl rfl (by kernel_rfl) (fun _ _ _ h => h) (by rfl) hHeld (fun w' hS' => ?hv2) ?hh2
    case hv2 => (go_simp; try with_reducible rfl)
    simp only [Act.put, List.setIfInBounds_toArray, List.set_cons_zero, List.set_cons_succ]
    refine take_op 3 26 ?v3 rfl rfl (by kernel_rfl) (fun _ _ _ h => h) (by rfl) hHeld (fun w' hS' => ?hv3) ?hh3
    case hv3 => (go_simp; try with_reducible rfl)
    simp only [Act.put, List.setIfInBounds_toArray, List.set_cons_zero, List.set_cons_succ]
    refine take_op 4 27 ?v4 rfl rfl (by kernel_rfl) (fun _ _ _ h => h) (by rfl) hHeld (fun w' hS' => ?hv4) ?hh4
    case hv4 => (have k := hS'.choose_spec.err; go_simp; try with_reducible rfl)
    simp only [Act.put, List.setIfInBounds_toArray, List.set_cons_zero, List.set_cons_succ]
    obtain ⟨cs, hcs⟩ := hHeld
    obtain ⟨T, hT⟩ := hcs.out.2.2.2.1
    refine only_op 5 rfl (by kernel_rfl) (by rfl) (wp_store_row 30 (.tmp 4) (.tmp 23) rfl k0 (pkArr pf af) rfl rfl T cs hT info_pk hcs.out.2.2.2.2.1 (one_pk _ _) ⟨⟨_, hcs.row⟩, ?_⟩)
    simp only [Act.put]
    have hHeld2 := hcs.row
    refine take_op 6 5 ?v6 rfl rfl (by kernel_rfl) (fun _ _ _ h => h) (by rfl) ⟨_, hHeld2⟩ (fun w' hS' => ?hv6) ?hh6
    case hv6 => (go_simp; try with_reducible rfl)
    simp only [Act.put, List.setIfInBounds_toArray]
    refine wpAnyH_done (by kernel_rfl) ?_ _
    have HF := Lib.hid hHeld2
    clear hcs hT hHeld2
    go_wp2_with fail
    refine bodyPost_ret (results_pk2 Tryz.results61 rfl HF.out.out.2.2.2.1 rfl) rfl ⟨pf, af, HRES.out, HF.out.out.2.2.1, HCAP.out, HNEW.out, HF.out.out.2.2.2.2.2.1, HWF.out, HPF.out⟩
  · obtain ⟨hne, hne2⟩ := size_facts hz
    have HQ : Hid ((bodyS c s).2 = R2.want false 8) := by show _ = _; rw [HE.out]; show R2.want (decide (R2.rest.size = 0)) 8 = _; rw [decide_eq_false hz]
    have HPQ : Hid ((R2.want false 8).isBad = false → pf = R1) := fun hb => by cases R2 <;> cases hb
    have HX := Lib.hid (fun (W : World) (h : RdOf true W g R2) => fail_st g R2 8 W (by decide) h)
    clear hz
    go_wp2_with fail
    refine (HX.out _ HL6.out.rd).mono ?_
    rintro r w7 ⟨rfl, q1, q2⟩
    have HL8 := Lib.hid (HL6.out.bar q2 q1)
    have HK8 : Hid (Box w7 k0 (pkArr (zp 0) za)) := Lib.hid (HK0.out.below (HL8.out.b.mono (by have := HG.out; omega)))
    clear q1 q2 HL6 HK6 e0 hne hne2 HPP HX
    go_upto_region 6 with fail
    have HCAP := Lib.hid HL8.out.cap
    have HNEW := Lib.hid (HL8.out.new.mono (B' := w.heap.size) (by have := HKK.out; omega))
    have HWF : Hid ((bodyS c s).2.Wf) := by show St.Wf _; rw [HQ.out]; exact HL8.out.wf
    have HRES : Hid (Ending.returned (.tuple #[.agg (pkArr pf af), .int .i64 (R2.want false 8).err]) = .returned (.tuple #[.agg (pkArr pf af), .int .i64 (bodyS c s).2.err])) := by show _ = _; rw [HQ.out]
    have HPF : Hid ((bodyS c s).2.isBad = false → pf = (bodyS c s).1) := fun hb => by
      rw [HQ.out] at hb
      rw [HE.out]
      exact HPQ.out hb
    have HEN := Lib.hid (EndAt.mk (w := w) (k0 := k0) (g := g) (h := h) (st := R2.want false 8) (p := pf) (a := af) (cs := pkArr (zp 0) za) ⟨HL8.out.rd, HL8.out.bx, HL8.out.at, HK8.out, rfl, (HA.out.trans (HL8.out.b.mono (by have := HKK.out; omega))), by have := HKK.out; omega, by omega, by omega, HL8.out.new.off hkl⟩)
    clear HL8 HK8
    refine wp_region_held_drew (S := fun W => ∃ cs, EndAt true w k0 g h (R2.want false 8) pf af cs W) (by kernel_rfl) ⟨_, HEN.out.drew⟩ (fun hHeld => ?_)
    generalize World.drew _ = Wd at hHeld ⊢
    refine take_load 0 23 30 (.tmp 7) h 0 (.agg (pkArr pf af)) rfl rfl (by kernel_rfl) (fun _ _ _ h => h) (by rfl) hHeld rfl rfl (fun w' hS' => load_bx hS'.choose_spec.out.2.1) ?_
    simp only [Act.put, List.setIfInBounds_toArray, List.set_cons_zero, List.set_cons_succ]
    refine take_op 1 24 ?v1b rfl rfl (by kernel_rfl) (fun _ _ _ h => h) (by rfl) hHeld (fun w' hS' => ?hv1b) ?hh1b
    case hv1b => (go_simp; try with_reducible rfl)
    simp only [Act.put, List.setIfInBounds_toArray, List.set_cons_zero, List.set_cons_succ]
    refine take_op 2 25 ?v2b rfl rfl (by kernel_rfl) (fun _ _ _ h => h) (by rfl) hHeld (fun w' hS' => ?hv2b) ?hh2b
    case hv2b => (go_simp; try with_reducible rfl)
    simp only [Act.put, List.setIfInBounds_toArray, List.set_cons_zero, List.set_cons_succ]
    refine take_op 3 26 ?v3b rfl rfl (by kernel_rfl) (fun _ _ _ h => h) (by rfl) hHeld (fun w' hS' => ?hv3b) ?hh3b
    case hv3b => (go_simp; try with_reducible rfl)
    simp only [Act.put, List.setIfInBounds_toArray, List.set_cons_zero, List.set_cons_succ]
    refine take_op 4 27 ?v4b rfl rfl (by kernel_rfl) (fun _ _ _ h => h) (by rfl) hHeld (fun w' hS' => ?hv4b) ?hh4b
    case hv4b => (have k := hS'.choose_spec.err; go_simp; try with_reducible rfl)
    simp only [Act.put, List.setIfInBounds_toArray, List.set_cons_zero, List.set_cons_succ]
    obtain ⟨cs, hcs⟩ := hHeld
    obtain ⟨T, hT⟩ := hcs.out.2.2.2.1
    refine only_op 5 rfl (by kernel_rfl) (by rfl) (wp_store_row 30 (.tmp 4) (.tmp 23) rfl k0 (pkArr pf af) rfl rfl T cs hT info_pk hcs.out.2.2.2.2.1 (one_pk _ _) ⟨⟨_, hcs.row⟩, ?_⟩)
    simp only [Act.put]
    have hHeld2 := hcs.row
    refine take_op 6 5 ?v6b rfl rfl (by kernel_rfl) (fun _ _ _ h => h) (by rfl) ⟨_, hHeld2⟩ (fun w' hS' => ?hv6b) ?hh6b
    case hv6b => (go_simp; try with_reducible rfl)
    simp only [Act.put, List.setIfInBounds_toArray]
    refine wpAnyH_done (by kernel_rfl) ?_ _
    have HF := Lib.hid hHeld2
    clear hcs hT hHeld2
    go_wp2_with fail
    refine bodyPost_ret (results_pk2 Tryz.results61 rfl HF.out.out.2.2.2.1 rfl) rfl ⟨pf, af, HRES.out, HF.out.out.2.2.1, HCAP.out, HNEW.out, HF.out.out.2.2.2.2.2.1, HWF.out, HPF.out⟩
end Go.Proofs.YtiancngpknnkaaaGreat
namespace Go.Proofs.YtiancngpknnkaaaGreat.Pkt
open Go.Lib Vbi Prp
def endS (p : Pk) (n : Nat) : St → Pk × Int × Int
  | .ok _ => (p, (n : Int), 0)
  | .bad e => (zp 0, 0, e)
theorem endS_eq (p : Pk) (n : Nat) (st : St) : endS p n st = if st.isBad = false then (p, (n : Int), 0) else (zp 0, 0, st.err) := by
  cases st with
  | ok s => exact (if_pos (show (St.ok s).isBad = false from rfl)).symm
  | bad e => exact (if_neg (show ¬ (St.bad e).isBad = false from fun h => by cases h)).symm
theorem err_ok {st : St} (h : st.isBad = false) : st.err = 0 := by
  cases st with
  | ok s => rfl
  | bad e => cases h
theorem err_bad {st : St} (hw : st.Wf) (h : st.isBad = true) : st.err ≠ 0 := by
  cases st with
  | ok s => cases h
  | bad e => exact hw
def TakeBody (s : ByteArray) (m q : Nat) : Prop :=
  (8192 < 1 + q + m ∧ takeS s = (zp 0, 0, 2)) ∨ (1 + q + m ≤ 8192 ∧ s.size < 1 + q + m ∧ takeS s = (zp 0, 0, 7)) ∨
  (1 + q + m ≤ 8192 ∧ 1 + q + m ≤ s.size ∧ ∃ p st, bodyS (idOf s) (s.extract (1 + q) (1 + q + m)) = (p, st) ∧ takeS s = endS p (1 + q + m) st)
theorem takeS_cases (s : ByteArray) : (s.size = 0 ∧ takeS s = (zp 0, 0, 7)) ∨ (s.size ≠ 0 ∧ ∃ E, tn (s.extract 1 s.size).data.toList = (0, 0, E) ∧ E ≠ 0 ∧ takeS s = (zp 0, 0, E)) ∨
    (s.size ≠ 0 ∧ ∃ m q : Nat, tn (s.extract 1 s.size).data.toList = ((m : Int), (q : Int), 0) ∧ 1 + q ≤ s.size ∧ m < 268435456 ∧ strOfNums (numZ m) = (s.extract 1 s.size).extract 0 q ∧ TakeBody s m q) := by
  by_cases h0 : s.size = 0
  · refine .inl ⟨h0, ?_⟩
    unfold takeS
    rw [if_pos h0]
  · refine .inr ?_
    rcases num_wrote (s.extract 1 s.size) with ⟨E, ht, hE⟩ | ⟨m, q, ht, hm, hq, hw⟩
    · refine .inl ⟨h0, E, ht, hE, ?_⟩
      unfold takeS
      rw [if_neg h0, ht, if_pos hE]
    · rw [ByteArray.size_extract] at hq
      refine .inr ⟨h0, m, q, ht, by omega, hm, hw, ?_⟩
      unfold TakeBody takeS
      rw [if_neg h0, ht, if_neg (not_not_intro rfl)]
      by_cases h8 : 8192 < 1 + q + m
      · refine .inl ⟨h8, ?_⟩
        show (if (8192 : Int) < 1 + (q : Int) + (m : Int) then _ else _) = _
        rw [if_pos (by omega)]
      · refine .inr ?_
        by_cases hl : s.size < 1 + q + m
        · refine .inl ⟨by omega, hl, ?_⟩
          show (if (8192 : Int) < 1 + (q : Int) + (m : Int) then _ else if (s.size : Int) < 1 + (q : Int) + (m : Int) then _ else _) = _
          rw [if_neg (by omega), if_pos (by omega)]
        · refine .inr ⟨by omega, by omega, ?_⟩
          have e1 : (1 + (q : Int)).toNat = 1 + q := by omega
          have e2 : (1 + (q : Int) + (m : Int)).toNat = 1 + q + m := by omega
          have key : (if (8192 : Int) < 1 + (q : Int) + (m : Int) then (zp 0, (0 : Int), (2 : Int)) else (if (s.size : Int) < 1 + (q : Int) + (m : Int) then (zp 0, 0, 7) else match bodyS (idOf s) (s.extract (1 + (q : Int)).toNat (1 + (q : Int) + (m : Int)).toNat) with | (p, .ok _) => (p, 1 + (q : Int) + (m : Int), 0) | (_, .bad e) => (zp 0, 0, e))) = match bodyS (idOf s) (s.extract (1 + q) (1 + q + m)) with | (p, .ok _) => (p, 1 + (q : Int) + (m : Int), 0) | (_, .bad e) => (zp 0, 0, e) := by
            rw [if_neg (by omega), if_neg (by omega), e1, e2]
          suffices h : ∃ p st, bodyS (idOf s) (s.extract (1 + q) (1 + q + m)) = (p, st) ∧ (match bodyS (idOf s) (s.extract (1 + q) (1 + q + m)) with | (p, .ok _) => (p, 1 + (q : Int) + (m : Int), (0 : Int)) | (_, .bad e) => (zp 0, 0, e)) = endS p (1 + q + m) st by
            obtain ⟨p, st, h1, h2⟩ := h
            exact ⟨p, st, h1, key.trans h2⟩
          obtain ⟨p, st, hb⟩ : ∃ p st, bodyS (idOf s) (s.extract (1 + q) (1 + q + m)) = (p, st) := ⟨_, _, rfl⟩
          rw [hb]
          refine ⟨p, st, rfl, ?_⟩
          cases st with
          | ok s' =>
            have : (1 + (q : Int) + (m : Int)) = ((1 + q + m : Nat) : Int) := by omega
            show (p, 1 + (q : Int) + (m : Int), (0 : Int)) = (p, ((1 + q + m : Nat) : Int), 0)
            rw [this]
          | bad e => rfl
end Go.Proofs.YtiancngpknnkaaaGreat.Pkt
namespace Go.Proofs.YtiancngpknnkaaaGreat
open Go.RowKit Go.Lib Prp Pkt Vbi
def GivesPk (R : Pk × Int × Int) (w : World) (r : Ending) (w' : World) : Prop :=
  ∃ a, r = .returned (.tuple #[.agg (pkArr R.1 a), .int .i64 R.2.1, .int .i64 R.2.2]) ∧ PkAt w' w'.heap.size R.1 a ∧ PkCap R.1 a ∧ Below w.heap.size w w'
def OutAt (w : World) (k0 : Nat) (W : World) : Prop := ∃ cs, Box W k0 cs ∧ cs.size = 25 ∧ Below w.heap.size w W ∧ w.heap.size ≤ k0
theorem OutAt.drew {w W : World} {k0 : Nat} (h : OutAt w k0 W) : OutAt w k0 (W.drewN 1) := by
  obtain ⟨cs, h1, h2, h3, h4⟩ := h
  exact ⟨cs, h1.drewN 1, h2, below_drewN h3 1, h4⟩
theorem OutAt.below {w W W' : World} {k0 : Nat} (h : OutAt w k0 W) (hb : Below W.heap.size W W') : OutAt w k0 W' := by
  obtain ⟨cs, h1, h2, h3, h4⟩ := h
  exact ⟨cs, h1.below hb, h2, h3.trans (hb.mono (by have := h1.lt; omega)), h4⟩
theorem OutAt.row {w W : World} {k0 : Nat} {ds : Array Value} (h : OutAt w k0 W) (hd : ds.size = 25) : OutAt w k0 (W.setRow k0 ds) := by
  obtain ⟨cs, h1, h2, h3, h4⟩ := h
  exact ⟨ds, h1.row ds, hd, (Bar.row k0 W ds).below h3 h4 (by have := h1.lt; omega), h4⟩
theorem PTake_is (s : ByteArray) (w : World) (hs : s.size ≤ 268435456) :
    Calls Tryz.prog 28 #[.string s] w (GivesPk (takeS s) w) := by
  have hb0 := Box.new w 30 (pkArr (zp 0) za)
  have ha := (Below.refl w.heap.size w).alloc (Nat.le_refl _) (.cells (pkArr (zp 0) za) 30)
  obtain ⟨W1, hW⟩ : ∃ W1, w.alloc (.cells (pkArr (zp 0) za) 30) = W1 := ⟨_, rfl⟩
  rw [hW] at hb0 ha
  simp only [pkArr, zp, za, zw, List.length_nil] at hW
  have HW := Lib.hid hW
  have HK0 := Lib.hid hb0
  have HA := Lib.hid ha
  clear hW hb0 ha
  have hkl := HK0.out.lt
  have HBR : Hid (Below w.heap.size w (W1.setRow w.heap.size (pkArr (zp 0) za))) := Lib.hid ((Bar.row w.heap.size W1 (pkArr (zp 0) za)).below HA.out (Nat.le_refl _) (by omega))
  rcases takeS_cases s with ⟨hz, e⟩ | ⟨hz, E, ht, hE, e⟩ | ⟨hz, m, q, ht, hq, hm, hw, hb⟩
  · rw [e]
    obtain rfl : s = ByteArray.empty := ByteArray.size_eq_zero_iff.1 hz
    clear hz e
    go_enter Tryz.func28, Tryz.ntmps28
    go_upto_region 1 with fail
    rw [HW.out]
    obtain ⟨k0, hk0⟩ : ∃ k, w.heap.size = k := ⟨_, rfl⟩
    rw [hk0] at HK0 ⊢
    have HBR : Hid (Below w.heap.size w (W1.setRow k0 (pkArr (zp 0) za))) := by rw [← hk0]; exact HBR
    clear hk0 HW
    go_wp2_with (first | (refine wpList_build_none rfl rfl ?_) | (refine wpList_store_whole rfl 30 (.tmp 2) (.tmp 9) rfl k0 (pkArr (zp 0) za) rfl rfl (pkArr (zp 0) za) HK0.out info_pk rfl (one_pk _ _) ?_; simp only [Act.put]))
    refine bodyPost_ret (results_pk3 Tryz.results28 rfl (HK0.out.row (pkArr (zp 0) za)) rfl rfl) rfl ⟨za, rfl, PkAt.zero _ _ 0, PkCap.zero' _ ⟨rfl, rfl, rfl, rfl⟩, HBR.out⟩
  · rw [e]
    have HT := Lib.hid (fun W => TakeNum_z (s.extract 1 s.size) 0 0 E W (by rw [ByteArray.size_extract]; omega) ht)
    obtain ⟨hne, hne2⟩ := size_facts hz
    have hEb := ne_true hE
    have hl1 : (1 : Int) ≤ (s.size : Int) := by omega
    clear e ht
    go_enter Tryz.func28, Tryz.ntmps28
    go_upto_region 1 with fail
    rw [HW.out]
    obtain ⟨k0, hk0⟩ : ∃ k, w.heap.size = k := ⟨_, rfl⟩
    rw [hk0] at HK0 ⊢
    have HBR : Hid (Below w.heap.size w (W1.setRow k0 (pkArr (zp 0) za))) := by rw [← hk0]; exact HBR
    clear hk0 HW
    go_wp2_with (first | (refine wpList_build_none rfl rfl ?_) | (refine wpList_store_whole rfl 30 (.tmp 2) (.tmp 19) rfl k0 (pkArr (zp 0) za) rfl rfl (pkArr (zp 0) za) HK0.out info_pk rfl (one_pk _ _) ?_; simp only [Act.put]) | (go_at_call 60; refine (HT.out _).mono ?_; rintro r wt ⟨rfl, rfl⟩))
    refine bodyPost_ret (results_pk3 Tryz.results28 rfl (HK0.out.row (pkArr (zp 0) za)) rfl rfl) rfl ⟨za, rfl, PkAt.zero _ _ 0, PkCap.zero' _ ⟨rfl, rfl, rfl, rfl⟩, HBR.out⟩
  have HT := Lib.hid (fun W => TakeNum_z (s.extract 1 s.size) (m : Int) (q : Int) 0 W (by rw [ByteArray.size_extract]; omega) ht)
  obtain ⟨hne, hne2⟩ := size_facts hz
  have hl1 : (1 : Int) ≤ (s.size : Int) := by omega
  rcases hb with ⟨h8, e⟩ | ⟨h8, hl, e⟩ | ⟨h8, hl, p, st, hbd, e⟩
  · rw [e]
    have h8I : (8192 : Int) < 1 + (q : Int) + (m : Int) := by omega
    clear e ht hw h8
    go_enter Tryz.func28, Tryz.ntmps28
    go_upto_region 1 with fail
    rw [HW.out]
    obtain ⟨k0, hk0⟩ : ∃ k, w.heap.size = k := ⟨_, rfl⟩
    rw [hk0] at HK0 ⊢
    have HBR : Hid (Below w.heap.size w (W1.setRow k0 (pkArr (zp 0) za))) := by rw [← hk0]; exact HBR
    clear hk0 HW
    go_wp2_with (first | (refine wpList_build_none rfl rfl ?_) | (refine wpList_store_whole rfl 30 (.tmp 2) (.tmp 27) rfl k0 (pkArr (zp 0) za) rfl rfl (pkArr (zp 0) za) HK0.out info_pk rfl (one_pk _ _) ?_; simp only [Act.put]) | (go_at_call 60; refine (HT.out _).mono ?_; rintro r wt ⟨rfl, rfl⟩))
    refine bodyPost_ret (results_pk3 Tryz.results28 rfl (HK0.out.row (pkArr (zp 0) za)) rfl rfl) rfl ⟨za, rfl, PkAt.zero _ _ 0, PkCap.zero' _ ⟨rfl, rfl, rfl, rfl⟩, HBR.out⟩
  · rw [e]
    have h8I : ¬ (8192 : Int) < 1 + (q : Int) + (m : Int) := by omega
    have hlI : (s.size : Int) < 1 + (q : Int) + (m : Int) := by omega
    clear e ht hw h8 hl
    go_enter Tryz.func28, Tryz.ntmps28
    go_upto_region 1 with fail
    rw [HW.out]
    obtain ⟨k0, hk0⟩ : ∃ k, w.heap.size = k := ⟨_, rfl⟩
    rw [hk0] at HK0 ⊢
    have HBR : Hid (Below w.heap.size w (W1.setRow k0 (pkArr (zp 0) za))) := by rw [← hk0]; exact HBR
    clear hk0 HW
    go_wp2_with (first | (refine wpList_build_none rfl rfl ?_) | (refine wpList_store_whole rfl 30 (.tmp 2) (.tmp 34) rfl k0 (pkArr (zp 0) za) rfl rfl (pkArr (zp 0) za) HK0.out info_pk rfl (one_pk _ _) ?_; simp only [Act.put]) | (go_at_call 60; refine (HT.out _).mono ?_; rintro r wt ⟨rfl, rfl⟩))
    refine bodyPost_ret (results_pk3 Tryz.results28 rfl (HK0.out.row (pkArr (zp 0) za)) rfl rfl) rfl ⟨za, rfl, PkAt.zero _ _ 0, PkCap.zero' _ ⟨rfl, rfl, rfl, rfl⟩, HBR.out⟩
  · rw [e]
    have hid := id_at (s := s) (by omega)
    have hb0 := s[0].toNat_lt
    have HT2 := Lib.hid (fun W => packAll_is (idOf s) (s.extract (1 + q) (1 + q + m)) W (by rw [hid]; omega) (by rw [hid]; omega) (by rw [ByteArray.size_extract]; omega))
    rw [hid, ← hid, hbd] at HT2
    rw [hid] at HT2
    have hsl : 0 < s.size := by omega
    have h8I : ¬ (8192 : Int) < 1 + (q : Int) + (m : Int) := by omega
    have hlI : ¬ (s.size : Int) < 1 + (q : Int) + (m : Int) := by omega
    have hp1 : 0 ≤ 1 + (q : Int) := by omega
    have hp2 : 1 + (q : Int) ≤ 1 + (q : Int) + (m : Int) := by omega
    have hp3 : 1 + (q : Int) + (m : Int) ≤ (s.size : Int) := by omega
    have ht1 : (1 + (q : Int)).toNat = 1 + q := by omega
    have ht2 : (1 + (q : Int) + (m : Int)).toNat = 1 + q + m := by omega
    have hwr : IntKind.i64.wrap (1 + (q : Int) + (m : Int)) = 1 + (q : Int) + (m : Int) := IntWalk.i64_in _ (by omega)
    have hq0 : 0 ≤ (q : Int) := by omega
    have hm0 : 0 ≤ (m : Int) := by omega
    obtain ⟨b, hb⟩ : ∃ b, s[0] = b := ⟨_, rfl⟩
    rw [hb] at HT2 hb0
    have hwb : IntKind.i64.wrap (b.toNat : Int) = (b.toNat : Int) := IntWalk.i64_in _ (by omega)
    obtain ⟨E, hEE⟩ : ∃ E, st.err = E := ⟨_, rfl⟩
    have hnn : ((1 + q + m : Nat) : Int) = 1 + (q : Int) + (m : Int) := by omega
    rw [endS_eq, hEE, hnn]
    obtain ⟨R, hR⟩ : ∃ R, (if st.isBad = false then (p, 1 + (q : Int) + (m : Int), (0 : Int)) else (zp 0, 0, E)) = R := ⟨_, rfl⟩
    rw [hR]
    have HRR := Lib.hid hR
    have HE := Lib.hid hEE
    clear e ht hw h8 hl hid hR hEE hbd hnn
    go_enter Tryz.func28, Tryz.ntmps28
    go_upto_region 1 with fail
    rw [HW.out]
    obtain ⟨k0, hk0⟩ : ∃ k, w.heap.size = k := ⟨_, rfl⟩
    have HKK := Lib.hid hk0
    rw [hk0] at HK0 ⊢
    clear hk0 HW
    go_upto_region 11 with (go_at_call 60; refine (HT.out _).mono ?_; rintro r wt ⟨rfl, rfl⟩)
    have HO := Lib.hid (show OutAt w k0 W1 from ⟨_, HK0.out, rfl, HA.out, by have := HKK.out; omega⟩)
    clear HT
    refine wp_region_held_drew (S := OutAt w k0) (by kernel_rfl) HO.out.drew (fun hHeld => ?_)
    generalize World.drew _ = Wd at hHeld ⊢
    have hkd : k0 < Wd.heap.size := hHeld.choose_spec.1.lt
    refine take_op 0 36 ?v0 rfl rfl (by kernel_rfl) (fun _ _ _ h => h) (by rfl) hHeld (fun w' hS' => ?hv0) ?hh0
    case hv0 => (go_simp; try with_reducible rfl)
    simp only [Act.put, List.setIfInBounds_toArray, List.set_cons_zero, List.set_cons_succ]
    refine take_op 1 37 ?v1 rfl rfl (by kernel_rfl) (fun _ _ _ h => h) (by rfl) hHeld (fun w' hS' => ?hv1) ?hh1
    case hv1 => (go_simp; try with_reducible rfl)
    simp only [Act.put, List.setIfInBounds_toArray, List.set_cons_zero, List.set_cons_succ]
    refine take_op 2 38 ?v2 rfl rfl (by kernel_rfl) (fun _ _ _ h => h) (by rfl) hHeld (fun w' hS' => ?hv2) ?hh2
    case hv2 => (go_simp; try with_reducible rfl)
    simp only [Act.put, List.setIfInBounds_toArray, List.set_cons_zero, List.set_cons_succ]
    refine take_op 3 39 ?v3 rfl rfl (by kernel_rfl) (fun _ _ _ h => h) (by rfl) hHeld (fun w' hS' => ?hv3) ?hh3
    case hv3 => (go_simp; try with_reducible rfl)
    simp only [Act.put, List.setIfInBounds_toArray, List.set_cons_zero, List.set_cons_succ]
    refine take_op 4 40 ?v4 rfl rfl (by kernel_rfl) (fun _ _ _ h => h) (by rfl) hHeld (fun w' hS' => ?hv4) ?hh4
    case hv4 => (go_simp; try with_reducible rfl)
    simp only [Act.put, List.setIfInBounds_toArray, List.set_cons_zero, List.set_cons_succ]
    refine take_op 5 41 ?v5 rfl rfl (by kernel_rfl) (fun _ _ _ h => h) (by rfl) hHeld (fun w' hS' => ?hv5) ?hh5
    case hv5 => (go_simp; try with_reducible rfl)
    simp only [Act.put, List.setIfInBounds_toArray, List.set_cons_zero, List.set_cons_succ]
    refine take_op 6 42 ?v6 rfl rfl (by kernel_rfl) (fun _ _ _ h => h) (by rfl) hHeld (fun w' hS' => ?hv6) ?hh6
    case hv6 => (go_simp; try with_reducible rfl)
    simp only [Act.put, List.setIfInBounds_toArray, List.set_cons_zero, List.set_cons_succ]
    refine take_op 7 43 ?v7 rfl rfl (by kernel_rfl) (fun _ _ _ h => h) (by rfl) hHeld (fun w' hS' => ?hv7) ?hh7
    case hv7 => (go_simp; try with_reducible rfl)
    simp only [Act.put, List.setIfInBounds_toArray, List.set_cons_zero, List.set_cons_succ]
    refine take_op 8 44 ?v8 rfl rfl (by kernel_rfl) (fun _ _ _ h => h) (by rfl) hHeld (fun w' hS' => ?hv8) ?hh8
    case hv8 => (go_simp; try with_reducible rfl)
    simp only [Act.put, List.setIfInBounds_toArray, List.set_cons_zero, List.set_cons_succ]
    refine only_op 9 rfl (by kernel_rfl) (by rfl) (wp_call_ex 45 61 #[.int .i64 (b.toNat : Int), .string (s.extract (1 + q) (1 + q + m))] _ rfl (by go_simp) (HT2.out Wd) ?_)
    rintro r w3 ⟨p', a, rfl, q1, q2, qn, q3, q4, q5⟩
    have q5' : st.isBad = false → p' = p := q5
    have hE3 : st.err = E := HE.out
    rw [show (p, st).2.err = E from hE3]
    refine ⟨_, rfl, hHeld.below q3, ?_⟩
    have hHeld := hHeld.below q3
    simp only [Act.put, List.setIfInBounds_toArray, List.set_cons_zero, List.set_cons_succ]
    refine take_op 10 35 ?v10c rfl rfl (by kernel_rfl) (fun _ _ _ h => h) (by rfl) hHeld (fun w' hS' => ?hv10c) ?hh10c
    case hv10c => (go_simp; try with_reducible rfl)
    simp only [Act.put, List.setIfInBounds_toArray, List.set_cons_zero, List.set_cons_succ]
    refine take_op 11 46 ?v11c rfl rfl (by kernel_rfl) (fun _ _ _ h => h) (by rfl) hHeld (fun w' hS' => ?hv11c) ?hh11c
    case hv11c => (go_simp; try with_reducible rfl)
    simp only [Act.put, List.setIfInBounds_toArray, List.set_cons_zero, List.set_cons_succ]
    refine take_op 12 47 ?v12c rfl rfl (by kernel_rfl) (fun _ _ _ h => h) (by rfl) hHeld (fun w' hS' => ?hv12c) ?hh12c
    case hv12c => (go_simp; try with_reducible rfl)
    simp only [Act.put, List.setIfInBounds_toArray, List.set_cons_zero, List.set_cons_succ]
    obtain ⟨cs, hcs⟩ := hHeld
    obtain ⟨T, hT⟩ := hcs.1
    have hHeld2 : OutAt w k0 (w3.setRow k0 (pkArr p' a)) := OutAt.row ⟨cs, hcs⟩ rfl
    refine only_op 13 rfl (by kernel_rfl) (by rfl) (wp_store_row 30 (.tmp 2) (.tmp 46) rfl k0 (pkArr p' a) rfl rfl T cs hT info_pk hcs.2.1 (one_pk _ _) ⟨hHeld2, ?_⟩)
    simp only [Act.put]
    refine take_op 14 4 ?v14 rfl rfl (by kernel_rfl) (fun _ _ _ h => h) (by rfl) hHeld2 (fun w' hS' => ?hv14) ?hh14
    case hv14 => (go_simp; try with_reducible rfl)
    simp only [Act.put, List.setIfInBounds_toArray]
    refine wpAnyH_done (by kernel_rfl) ?_ _
    have HK3 : Hid (Box (w3.setRow k0 (pkArr p' a)) k0 (pkArr p' a)) := Lib.hid (hcs.1.row _)
    have HB3 := Lib.hid hHeld2.choose_spec.2.2.1
    have HOFF : Hid (PkOff k0 a ∧ PkAt (w3.setRow k0 (pkArr p' a)) (w3.setRow k0 (pkArr p' a)).heap.size p' a) := by
      have ho : PkOff k0 a := qn.off hkd
      exact ⟨ho, pk_bar q1 ho (Bar.row k0 w3 _)⟩
    have Q2 := Lib.hid q2
    have Q4 := Lib.hid q4
    have Q5 := Lib.hid q5'
    clear hcs hT hHeld2 q1 q2 qn q3 q4 q5 q5' hE3 HT2 HO
    by_cases hbad : st.isBad = false
    · have hE0 : E = 0 := by rw [← HE.out]; exact err_ok hbad
      subst hE0
      have HRE : Hid (R = (p, 1 + (q : Int) + (m : Int), 0)) := by show _ = _; rw [← HRR.out, if_pos hbad]
      obtain rfl := Q5.out hbad
      clear hbad HE HRR Q5 Q4
      have hld := load_bx HK3.out
      go_wp2_with (first | (refine wpList_load_any (by rfl) 30 (.tmp 2) rfl k0 0 rfl _ hld ?_) | (refine wpList_store_whole rfl 30 (.tmp 2) (.tmp 52) rfl k0 (pkArr p' a) rfl rfl (pkArr p' a) HK3.out info_pk rfl (one_pk _ _) ?_; simp only [Act.put]))
      have hrow := Bar.row k0 (w3.setRow k0 (pkArr p' a)) (pkArr p' a)
      refine bodyPost_ret (results_pk3 Tryz.results28 rfl (HK3.out.row (pkArr p' a)) rfl rfl) rfl ⟨a, by rw [HRE.out]; rfl, by rw [HRE.out]; exact pk_bar HOFF.out.2 HOFF.out.1 hrow, by rw [HRE.out]; exact Q2.out, hrow.below HB3.out (by have := HKK.out; omega) (by have := HK3.out.lt; have := HKK.out; omega)⟩
    · have hbt : st.isBad = true := by cases h : st.isBad with
        | true => rfl
        | false => exact absurd h hbad
      have hE0 : E ≠ 0 := by rw [← HE.out]; exact err_bad Q4.out hbt
      have hEb := ne_true hE0
      have HRE : Hid (R = (zp 0, 0, E)) := by show _ = _; rw [← HRR.out, if_neg hbad]
      clear hbad hbt HE HRR Q5 Q4
      go_wp2_with (first | (refine wpList_build_none rfl rfl ?_) | (refine wpList_store_whole rfl 30 (.tmp 2) (.tmp 50) rfl k0 (pkArr (zp 0) za) rfl rfl (pkArr p' a) HK3.out info_pk rfl (one_pk _ _) ?_; simp only [Act.put]))
      have hrow := Bar.row k0 (w3.setRow k0 (pkArr p' a)) (pkArr (zp 0) za)
      refine bodyPost_ret (results_pk3 Tryz.results28 rfl (HK3.out.row (pkArr (zp 0) za)) rfl rfl) rfl ⟨za, by rw [HRE.out]; rfl, by rw [HRE.out]; exact PkAt.zero _ _ 0, by rw [HRE.out]; exact PkCap.zero' _ ⟨rfl, rfl, rfl, rfl⟩, hrow.below HB3.out (by have := HKK.out; omega) (by have := HK3.out.lt; have := HKK.out; omega)⟩
open Go.RowKit Go.Lib Prp Vbi
theorem putOne_same (k id n : Int) (s v S : ByteArray) (w : World) (hk : kindZ id = k) (hk0 : k ≠ 0) (hn : n ≤ 9223372036854775807) (hs : s.size ≤ 9223372036854775807) (hp : putB k n s v = true)
    (hd : diffB (strip k ⟨id, n, s, v⟩) ⟨id, n, s, v⟩ = false) (hS : oneStr ⟨id, n, s, v⟩ = S) :
    Calls Tryz.prog 138 #[.agg #[.int .i64 id, .int .i64 n, .string s, .string v]] w fun e w' => e = .returned (.tuple #[.string S, .int .i64 0]) ∧ Below w.heap.size w w' := by
  have hr := kind_range id
  rw [hk] at hr
  obtain ⟨hi1, hi42⟩ := kind_id (id := id) (by rw [hk]; exact hk0)
  obtain ⟨X, hX⟩ : ∃ X, anyOf k ⟨id, n, s, v⟩ = X := ⟨_, rfl⟩
  obtain ⟨T, hT⟩ : ∃ T, valStr k ⟨id, n, s, v⟩ = T := ⟨_, rfl⟩
  obtain ⟨⟨i', n', s', v'⟩, hq⟩ : ∃ q, strip k ⟨id, n, s, v⟩ = q := ⟨_, rfl⟩
  have hz : T.size ≤ 2052 := by rw [← hT]; exact val_size hr.1 hr.2 hk0 hp
  have HK := Lib.hid (fun W => Kind_is id k _ W hk rfl)
  have HV := Lib.hid (fun W => valueOf_is k id n s v X W hX)
  have HP := Lib.hid (fun W => put_yes k id n s v T X W hr.1 hr.2 hk0 hn hs hX hp hT)
  have HO := Lib.hid (fun W => propOf_is k id n i' n' s v s' v' X W hX hq)
  have HS : Hid (strOfNums [id] ++ T = S) := by
    show _ = _
    rw [← hS, ← hT]
    unfold oneStr
    show _ = strOfNums [id] ++ valStr (kindZ id) _
    rw [hk]
  rw [hq] at hd
  have hne := neq_props i' n' id n s' v' s v
  rw [hd] at hne
  have HN := Lib.hid hne
  have hcv := conv_byte
  have hz1 : (strOfNums [id]).size ≤ 1 := by rw [strOfNums_size]; simp
  clear hk hk0 hX hp hr hT hq hd hS hne
  go_enter Tryz.func138, Tryz.ntmps138
  go_wp2_with fail
  have HB := Lib.hid (Keep.new w 103 #[.int .i64 id, .int .i64 n, .string s, .string v])
  obtain ⟨g, hg⟩ : ∃ g, w.heap.size = g := ⟨_, rfl⟩
  generalize w.alloc (.cells #[.int .i64 id, .int .i64 n, .string s, .string v] 103) = w0 at HB ⊢
  rw [hg] at HB ⊢
  have HG := Lib.hid hg
  clear hg
  refine (HK.out _).mono ?_
  rintro e w' ⟨rfl, rfl⟩
  obtain ⟨c0, c1, c2, c3⟩ := HB.out.four
  go_wp2_with fail
  refine (HV.out _).mono ?_
  rintro e w1 ⟨rfl, hb1⟩
  have HB1 := Lib.hid (HB.out.below hb1)
  clear c0 c1 c2 c3 hb1 HB HV
  go_wp2_with fail
  refine (HP.out _).mono ?_
  rintro e w2 ⟨rfl, hb2⟩
  have HB2 := HB1.out.below hb2
  clear hb2 HB1 HP
  obtain ⟨c0, c1, c2, c3⟩ := HB2.four
  have hne2 := HN.out
  go_wp2_with fail
  go_region_held3 (fun W => W.cell? ⟨g, 0, none⟩ = some (.int .i64 id) ∧ W.cell? ⟨g, 1, none⟩ = some (.int .i64 n) ∧ W.cell? ⟨g, 2, none⟩ = some (.string s) ∧ W.cell? ⟨g, 3, none⟩ = some (.string v) ∧ Keep w g #[.int .i64 id, .int .i64 n, .string s, .string v] W)
    (first | exact ⟨d0, d1, d2, d3, st⟩ | exact ⟨c0, c1, c2, c3, HB2.drewN 1⟩)
    (first | (go_at_call 165; (with_reducible refine (HO.out _).mono ?_); rintro e w3 ⟨rfl, hb3⟩; have st := (HB2.drewN 1).below hb3; obtain ⟨d0, d1, d2, d3⟩ := st.four))
  have HB3 := Lib.hid st.out.2
  clear hb3 st d1 d2 d3 c0 c1 c2 c3 HB2 hne2 HO HN
  go_wp2_with fail
  go_ret2
  exact ⟨by rw [← HS.out]; rfl, HB3.out.alloc HB3.out.size _⟩
theorem putOne_diff (k id n : Int) (s v : ByteArray) (w : World) (hk : kindZ id = k) (hk0 : k ≠ 0) (hn : n ≤ 9223372036854775807) (hs : s.size ≤ 9223372036854775807) (hp : putB k n s v = true)
    (hd : diffB (strip k ⟨id, n, s, v⟩) ⟨id, n, s, v⟩ = true) :
    Calls Tryz.prog 138 #[.agg #[.int .i64 id, .int .i64 n, .string s, .string v]] w fun e w' => e = .returned (.tuple #[.string ⟨#[]⟩, .int .i64 1]) ∧ Below w.heap.size w w' := by
  have hr := kind_range id
  rw [hk] at hr
  obtain ⟨X, hX⟩ : ∃ X, anyOf k ⟨id, n, s, v⟩ = X := ⟨_, rfl⟩
  obtain ⟨T, hT⟩ : ∃ T, valStr k ⟨id, n, s, v⟩ = T := ⟨_, rfl⟩
  obtain ⟨⟨i', n', s', v'⟩, hq⟩ : ∃ q, strip k ⟨id, n, s, v⟩ = q := ⟨_, rfl⟩
  have hz : T.size ≤ 2052 := by rw [← hT]; exact val_size hr.1 hr.2 hk0 hp
  have HK := Lib.hid (fun W => Kind_is id k _ W hk rfl)
  have HV := Lib.hid (fun W => valueOf_is k id n s v X W hX)
  have HP := Lib.hid (fun W => put_yes k id n s v T X W hr.1 hr.2 hk0 hn hs hX hp hT)
  have HO := Lib.hid (fun W => propOf_is k id n i' n' s v s' v' X W hX hq)
  rw [hq] at hd
  have hne := neq_props i' n' id n s' v' s v
  rw [hd] at hne
  have HN := Lib.hid hne
  clear hk hk0 hX hp hr hT hq hd hne
  go_enter Tryz.func138, Tryz.ntmps138
  go_wp2_with fail
  have HB := Lib.hid (Keep.new w 103 #[.int .i64 id, .int .i64 n, .string s, .string v])
  obtain ⟨g, hg⟩ : ∃ g, w.heap.size = g := ⟨_, rfl⟩
  generalize w.alloc (.cells #[.int .i64 id, .int .i64 n, .string s, .string v] 103) = w0 at HB ⊢
  rw [hg] at HB ⊢
  have HG := Lib.hid hg
  clear hg
  refine (HK.out _).mono ?_
  rintro e w' ⟨rfl, rfl⟩
  obtain ⟨c0, c1, c2, c3⟩ := HB.out.four
  go_wp2_with fail
  refine (HV.out _).mono ?_
  rintro e w1 ⟨rfl, hb1⟩
  have HB1 := Lib.hid (HB.out.below hb1)
  clear c0 c1 c2 c3 hb1 HB HV
  go_wp2_with fail
  refine (HP.out _).mono ?_
  rintro e w2 ⟨rfl, hb2⟩
  have HB2 := HB1.out.below hb2
  clear hb2 HB1 HP
  obtain ⟨c0, c1, c2, c3⟩ := HB2.four
  have hne2 := HN.out
  go_wp2_with fail
  go_region_held3 (fun W => W.cell? ⟨g, 0, none⟩ = some (.int .i64 id) ∧ W.cell? ⟨g, 1, none⟩ = some (.int .i64 n) ∧ W.cell? ⟨g, 2, none⟩ = some (.string s) ∧ W.cell? ⟨g, 3, none⟩ = some (.string v) ∧ Keep w g #[.int .i64 id, .int .i64 n, .string s, .string v] W)
    (first | exact ⟨d0, d1, d2, d3, st⟩ | exact ⟨c0, c1, c2, c3, HB2.drewN 1⟩)
    (first | (go_at_call 165; (with_reducible refine (HO.out _).mono ?_); rintro e w3 ⟨rfl, hb3⟩; have st := (HB2.drewN 1).below hb3; obtain ⟨d0, d1, d2, d3⟩ := st.four))
  have HB3 := Lib.hid st.out.2
  clear hb3 st d0 d1 d2 d3 c0 c1 c2 c3 HB2 hne2 HO HN
  go_wp2_with fail
  go_ret2
  exact ⟨rfl, HB3.out⟩
theorem putOne_yes (id n : Int) (s v S : ByteArray) (w : World) (hk0 : kindZ id ≠ 0) (hn : n ≤ 9223372036854775807) (hs : s.size ≤ 9223372036854775807) (hb : valB (kindZ id) ⟨id, n, s, v⟩ = true) (hS : oneStr ⟨id, n, s, v⟩ = S) :
    Calls Tryz.prog 138 #[.agg #[.int .i64 id, .int .i64 n, .string s, .string v]] w fun e w' => e = .returned (.tuple #[.string S, .int .i64 0]) ∧ Below w.heap.size w w' := by
  have hr := kind_range id
  rw [val_put _ id n s v hr.1 hr.2 hk0, Bool.and_eq_true, Bool.not_eq_true'] at hb
  exact putOne_same _ id n s v S w rfl hk0 hn hs hb.1 hb.2 hS
theorem putOne_no (id n : Int) (s v : ByteArray) (w : World) (hk0 : kindZ id ≠ 0) (hk1 : kindZ id = 1 → n = 0 ∨ n = 1) (hn : n ≤ 9223372036854775807) (hs : s.size ≤ 9223372036854775807) (hv : v.size ≤ 9223372036854775807) (hb : valB (kindZ id) ⟨id, n, s, v⟩ = false) :
    Calls Tryz.prog 138 #[.agg #[.int .i64 id, .int .i64 n, .string s, .string v]] w fun e w' => e = .returned (.tuple #[.string ⟨#[]⟩, .int .i64 1]) ∧ Below w.heap.size w w' := by
  have hr := kind_range id
  rw [val_put _ id n s v hr.1 hr.2 hk0] at hb
  cases hp : putB (kindZ id) n s v with
  | false => exact putOne_wrong _ id n s v w rfl hk0 hk1 hn hs hv hp
  | true =>
    rw [hp, Bool.true_and, Bool.not_eq_false'] at hb
    exact putOne_diff _ id n s v w rfl hk0 hn hs hp hb
theorem one_size (id n : Int) (s v : ByteArray) (hk0 : kindZ id ≠ 0) (hb : valB (kindZ id) ⟨id, n, s, v⟩ = true) : (oneStr ⟨id, n, s, v⟩).size ≤ 2053 := by
  have hr := kind_range id
  rw [val_put _ id n s v hr.1 hr.2 hk0, Bool.and_eq_true] at hb
  have := val_size (id := id) hr.1 hr.2 hk0 hb.1
  unfold oneStr
  rw [ByteArray.size_append, strOfNums_size]
  show 1 + (valStr (kindZ id) _).size ≤ _
  omega
open Go.RowKit Go.Lib
theorem builder_size : (Tryz.prog.info? 107).map (·.size) = some 2 := by kernel_rfl
theorem builder_lies : liesAt Tryz.prog Tryz.prog.depth 107 (2 / Tryz.prog.cellsOf 107) 0 107 1 = true := by kernel_rfl
theorem copyCheck_used (b : Nat) (w : World) (h0 : w.cell? ⟨b, 0, none⟩ = some (.pointer (some ⟨b, 0, none⟩))) :
    Calls Tryz.prog 111 #[.pointer (some ⟨b, 0, none⟩)] w fun e w' => e = .returned (.tuple #[]) ∧ w = w' := by
  obtain ⟨j, hj, _⟩ := Option.map_eq_some_iff.1 builder_size
  go_enter Tryz.func111, Tryz.ntmps111
  go_wp2
  rw [Lib.run_neq_ptr_same w _ Tryz.underlying105 hj]
  go_wp2
  go_end0
  exact ⟨rfl, rfl⟩
theorem copyCheck_fresh (b : Nat) (w : World) (h0 : w.cell? ⟨b, 0, none⟩ = some (.pointer none)) (hsh : w.shape? b = some (107, 2)) (hfz : w.frozen? ⟨b, 0, none⟩ = false) :
    Calls Tryz.prog 111 #[.pointer (some ⟨b, 0, none⟩)] w fun e w' => e = .returned (.tuple #[]) ∧ w' = w.setCell ⟨b, 0, none⟩ (.pointer (some ⟨b, 0, none⟩)) := by
  obtain ⟨j, hj, hjs⟩ := Option.map_eq_some_iff.1 builder_size
  go_enter Tryz.func111, Tryz.ntmps111
  go_wp2
  rw [Lib.run_to_unsafe w ⟨b, 0, none⟩ Tryz.underlying105 Tryz.underlying168 hj (by rw [hjs]; decide) hsh (Nat.zero_lt_succ 1)]
  simp only [Result.andThen]
  rw [Oper.upon_value]
  go_wp2
  rw [run_callFunc_extern Tryz.func140 (by kernel_rfl) (by kernel_rfl) (by kernel_rfl) (e := Extern.AbiNoEscape.same) (by kernel_rfl), Lib.run_noEscape]
  simp only [Result.andThen]
  rw [Oper.upon_value]
  go_wp2
  rw [Lib.run_from_unsafe w ⟨b, 0, none⟩ Tryz.underlying168 Tryz.underlying105 hj hsh builder_lies]
  simp only [Result.andThen]
  rw [Oper.upon_value]
  go_wp2
  go_end0
  exact ⟨rfl, rfl⟩
def Built (B b : Nat) (s : ByteArray) (w : World) : Prop := IsBuilder 107 5 B b (Lib.byteCells s.data.toList) w
theorem copyCheck_is (B b : Nat) (xs : List Value) (w : World) (h : IsBuilder 107 5 B b xs w) :
    Calls Tryz.prog 111 #[.pointer (some ⟨b, 0, none⟩)] w fun e w' => e = .returned (.tuple #[]) ∧ BuilderAt 107 5 B b (.pointer (some ⟨b, 0, none⟩)) xs w' ∧ Below B w w' := by
  rcases h with h | h
  · exact (copyCheck_fresh b w h.cell0 h.shape h.frozen0).mono fun _ _ ⟨he, hw⟩ => ⟨he, by rw [hw]; exact h.used _, by rw [hw]; exact (Below.refl B w).setCell (p := ⟨b, 0, none⟩) h.1 _⟩
  · exact (copyCheck_used b w h.cell0).mono fun _ _ ⟨he, hw⟩ => ⟨he, by rw [← hw]; exact h, by rw [← hw]; exact Below.refl B w⟩
theorem own_any {w : World} {B e n : Nat} {v : Value} {xs : List Value} (h : w.ownsRow B e 1 v n xs) : ∃ a m c, v = .slice a m c := by
  rcases h.2 with ⟨hv, _⟩ | ⟨g, cap, cur, hv, _⟩
  · exact ⟨_, _, _, hv⟩
  · exact ⟨_, _, _, hv⟩
theorem WriteString_cells (B b : Nat) (xs : List Value) (s : ByteArray) (w : World) (h : IsBuilder 107 5 B b xs w) (hlen : xs.length + s.size ≤ 140737488355328) (hBw : B ≤ w.heap.size) :
    Calls Tryz.prog 79 #[.pointer (some ⟨b, 0, none⟩), .string s] w fun e w' => (∃ v, e = .returned v) ∧ BuilderAt 107 5 B b (.pointer (some ⟨b, 0, none⟩)) (xs ++ Lib.strCells s) w' ∧ Below B w w' := by
  obtain ⟨i0, hi, hz0, hz1, hz2⟩ := info_parts info_byte
  have HC := Lib.hid (fun W hW => copyCheck_is B b xs W hW)
  go_enter Tryz.func79, Tryz.ntmps79
  go_wp2_with fail
  refine (HC.out _ h).mono ?_
  rintro e w1 ⟨rfl, ⟨hB, v, hbk, hown, hne⟩, hb1⟩
  have c0 : w1.cell? ⟨b, 0, none⟩ = some (.pointer (some ⟨b, 0, none⟩)) := by rw [Lib.cell_of_heap hbk]; rfl
  have c1 : w1.cell? ⟨b, 1, none⟩ = some v := by rw [Lib.cell_of_heap hbk]; rfl
  have hBw1 : B ≤ w1.heap.size := Nat.le_trans hBw hb1.size
  go_wp2_with (at_builtin; refine Lib.wpList_append_own_string _ rfl _ _ 70 9 rfl B 5 i0 Tryz.underlying70 Tryz.underlying9 hi hz0 hz1 hz2 _ _ _ rfl hown s rfl ?x1 ?x2 hBw1 ?_)
  case x1 => unfold maxLen; omega
  case x2 => omega
  intro v' w2 hown' hgrow _
  have hlt : b < w1.heap.size := (Array.getElem?_eq_some_iff.1 hbk).1
  have hb2 : w2.heap[b]? = some (.cells #[.pointer (some ⟨b, 0, none⟩), v] 107 (0, 0)) := (hgrow.block b hlt (fun e => hne e.symm)).trans hbk
  have d0 : w2.cell? ⟨b, 0, none⟩ = some (.pointer (some ⟨b, 0, none⟩)) := by rw [Lib.cell_of_heap hb2]; rfl
  have d1 : w2.cell? ⟨b, 1, none⟩ = some v := by rw [Lib.cell_of_heap hb2]; rfl
  have f1 : w2.frozen? ⟨b, 1, none⟩ = false := Lib.frozen_of_heap hb2 1
  obtain ⟨a, m, c, rfl⟩ := own_any hown'
  go_wp2
  go_ret2
  refine ⟨⟨_, rfl⟩, ?_, ?_⟩
  · exact Lib.BuilderAt.put hB hb2 (bs' := xs ++ Lib.strCells s) (by simpa [Lib.strCells_length] using hown') (by decide)
  · exact (hb1.grown hgrow hBw1 (fun k hk => (hown.lt k hk).1)).setCell (p := ⟨b, 1, none⟩) hB _
theorem cells_add (s t : ByteArray) : Lib.byteCells (s ++ t).data.toList = Lib.byteCells s.data.toList ++ Lib.strCells t := by
  rw [ByteArray.data_append, Array.toList_append]
  simp [Lib.byteCells, Lib.strCells]
theorem WriteString_is (B b : Nat) (s t : ByteArray) (w : World) (h : Built B b s w) (hlen : s.size + t.size ≤ 140737488355328) (hBw : B ≤ w.heap.size) :
    Calls Tryz.prog 79 #[.pointer (some ⟨b, 0, none⟩), .string t] w fun e w' => (∃ v, e = .returned v) ∧ Built B b (s ++ t) w' ∧ Below B w w' := by
  refine (WriteString_cells B b _ t w h ?_ hBw).mono fun _ _ ⟨h1, h2, h3⟩ => ⟨h1, .inr ?_, h3⟩
  · have : (Lib.byteCells s.data.toList).length = s.size := by rw [Lib.size_eq]; simp [Lib.byteCells]
    omega
  · rw [cells_add]; exact h2
theorem built_new (w : World) : Built w.heap.size w.heap.size ⟨#[]⟩ (w.alloc (.cells #[.pointer none, .slice none 0 0] 107)) := Lib.fresh_isBuilder _ _ w
theorem Len_is (B b : Nat) (s : ByteArray) (w : World) (h : Built B b s w) :
    Calls Tryz.prog 139 #[.pointer (some ⟨b, 0, none⟩)] w fun e w' => e = .returned (.int .i64 (s.size : Int)) ∧ w = w' := by
  have : (Lib.byteCells s.data.toList).length = s.size := by rw [Lib.size_eq]; simp [Lib.byteCells]
  rw [← this]
  exact (Tryz.Builder_Len B b _ w h).mono fun _ _ ⟨h1, h2⟩ => ⟨h1, h2.symm⟩
theorem String_is (B b : Nat) (s : ByteArray) (w : World) (h : Built B b s w) (hBw : B ≤ w.heap.size) :
    Calls Tryz.prog 80 #[.pointer (some ⟨b, 0, none⟩)] w fun e w' => e = .returned (.string s) ∧ Below B w w' :=
  (Tryz.Builder_String_any B b s.data.toList w h hBw).mono fun _ _ ⟨h1, h2⟩ => ⟨by rw [h1], h2⟩
open Go.RowKit Go.Lib Prp Vbi
def bytesStr (place : Int) (l : List P) : ByteArray := if propsB place l = true then propStr l else ⟨#[]⟩
def bytesErr (place : Int) (l : List P) : Int := if propsB place l = true then 0 else 1
theorem bytes_yes {place : Int} {l : List P} (h : propsB place l = true) : bytesStr place l = propStr l ∧ bytesErr place l = 0 := by unfold bytesStr bytesErr; rw [if_pos h, if_pos h]; exact ⟨rfl, rfl⟩
theorem bytes_no {place : Int} {l : List P} (h : propsB place l = false) : bytesStr place l = ⟨#[]⟩ ∧ bytesErr place l = 1 := by
  have h' : ¬ propsB place l = true := by rw [h]; decide
  unfold bytesStr bytesErr; rw [if_neg h', if_neg h']; exact ⟨rfl, rfl⟩
theorem props_place {place : Int} {l : List P} (h : placeB place = false) : propsB place l = false := by unfold propsB; rw [h]; rfl
theorem props_many {place : Int} {l : List P} (h : 8 < l.length) : propsB place l = false := by unfold propsB; rw [decide_eq_false (by omega)]; simp
theorem props_few {place : Int} {l : List P} (h : placeB place = true) (h8 : l.length ≤ 8) : propsB place l = goodL place [] l := by unfold propsB; rw [h, decide_eq_true h8]; simp
theorem good_step {place : Int} {l : List P} {k : Nat} (hk : k < l.length) : goodL place (l.take k) (l.drop k) = (goodB place (l.take k) l[k] && goodL place (l.take (k + 1)) (l.drop (k + 1))) := by
  rw [List.drop_eq_getElem_cons hk, List.take_succ_eq_append_getElem hk]; rfl
theorem rest_step {l : List P} {k : Nat} (hk : k < l.length) : restStr (l.take (k + 1)) = restStr (l.take k) ++ oneStr l[k] := by
  rw [List.take_succ_eq_append_getElem hk, rest_snoc]
theorem Built.below {W W' : World} {B b : Nat} {s : ByteArray} (h : Built B b s W) (hb : Below W.heap.size W W') : Built B b s W' := by
  have key : ∀ p, BuilderAt 107 5 B b p (Lib.byteCells s.data.toList) W → BuilderAt 107 5 B b p (Lib.byteCells s.data.toList) W' := fun p h => by
    have hl := h.lt
    obtain ⟨h1, v, h2, h3, h4⟩ := h
    exact ⟨h1, v, (hb.block b hl).trans h2, own_below h3 hb, h4⟩
  rcases h with h | h
  · exact .inl (key _ h)
  · exact .inr (key _ h)
@[irreducible] def BSt (w : World) (A : Option Addr) (l : List P) (b : Nat) (S : ByteArray) (W : World) : Prop := Built w.heap.size b S W ∧ PropsAt W w.heap.size A l ∧ Below w.heap.size w W
section
variable {w W W' : World} {A : Option Addr} {l : List P} {b g : Nat} {S T : ByteArray} {cs : Array Value}
theorem BSt.mk (h1 : Built w.heap.size b S W) (h2 : PropsAt W w.heap.size A l) (h3 : Below w.heap.size w W) : BSt w A l b S W := by unfold BSt; exact ⟨h1, h2, h3⟩
theorem BSt.out (h : BSt w A l b S W) : Built w.heap.size b S W ∧ PropsAt W w.heap.size A l ∧ Below w.heap.size w W := by unfold BSt at h; exact h
theorem BSt.below (h : BSt w A l b S W) (hb : Below W.heap.size W W') : BSt w A l b S W' :=
  .mk (h.out.1.below hb) (h.out.2.1.below (hb.mono h.out.2.2.size)) (h.out.2.2.trans (hb.mono h.out.2.2.size))
theorem BSt.drewN (h : BSt w A l b S W) (n : Nat) : BSt w A l b S (W.drewN n) := h.below (below_drewN (Below.refl _ _) n)
theorem BSt.alloc (h : BSt w A l b S W) (o : Obj) : BSt w A l b S (W.alloc o) := h.below ((Below.refl _ _).alloc (Nat.le_refl _) o)
theorem BSt.write (h : BSt w A l b S W) (h1 : Built w.heap.size b T W') (hb : Below w.heap.size W W') : BSt w A l b T W' := .mk h1 (h.out.2.1.below hb) (h.out.2.2.trans hb)
@[irreducible] def BStP (w : World) (A : Option Addr) (l : List P) (b : Nat) (S : ByteArray) (g : Nat) (cs : Array Value) (W : World) : Prop := BSt w A l b S W ∧ Box W g cs
theorem BStP.mk (h1 : BSt w A l b S W) (h2 : Box W g cs) : BStP w A l b S g cs W := by unfold BStP; exact ⟨h1, h2⟩
theorem BStP.out (h : BStP w A l b S g cs W) : BSt w A l b S W ∧ Box W g cs := by unfold BStP at h; exact h
theorem BStP.below (h : BStP w A l b S g cs W) (hb : Below W.heap.size W W') : BStP w A l b S g cs W' := .mk (h.out.1.below hb) (h.out.2.below hb)
theorem BStP.drewN (h : BStP w A l b S g cs W) (n : Nat) : BStP w A l b S g cs (W.drewN n) := h.below (below_drewN (Below.refl _ _) n)
theorem BStP.new (h : BSt w A l b S W) (T : TypeId) : BStP w A l b S W.heap.size cs (W.alloc (.cells cs T)) := .mk (h.alloc _) (.new W T cs)
end
theorem BStP.four {w W : World} {A : Option Addr} {l : List P} {b g : Nat} {S : ByteArray} {x y : Int} {s v : ByteArray} (h : BStP w A l b S g #[.int .i64 x, .int .i64 y, .string s, .string v] W) :
    W.cell? ⟨g, 0, none⟩ = some (.int .i64 x) ∧ W.cell? ⟨g, 1, none⟩ = some (.int .i64 y) ∧ W.cell? ⟨g, 2, none⟩ = some (.string s) ∧ W.cell? ⟨g, 3, none⟩ = some (.string v) :=
  ⟨h.out.2.cell 0, h.out.2.cell 1, h.out.2.cell 2, h.out.2.cell 3⟩
theorem mayFollow_take (place id n : Int) (s v : ByteArray) (l : List P) (k : Nat) (A : Option Addr) (c B : Nat) (b : Bool) (w : World) (hk : k ≤ l.length) (hm : l.length ≤ 9223372036854775807) (h : PropsAt w B A l) (hB : B ≤ w.heap.size) (hb : mayB place (l.take k) ⟨id, n, s, v⟩ = b) :
    Calls Tryz.prog 137 #[.int .i64 place, .slice A k c, .agg #[.int .i64 id, .int .i64 n, .string s, .string v]] w fun e w' => e = .returned (.bool b) ∧ Below w.heap.size w w' := by
  have := mayFollow_is place id n s v (l.take k) A c b w (by rw [List.length_take]; omega) ((h.mono hB).take k) hb
  rwa [List.length_take, Nat.min_eq_left hk] at this
theorem may_kind {place id n : Int} {s v : ByteArray} {a : List P} (h : mayB place a ⟨id, n, s, v⟩ = true) : kindZ id ≠ 0 ∧ (kindZ id = 1 → n = 0 ∨ n = 1) := by
  unfold mayB at h
  rw [Bool.and_eq_true, Bool.and_eq_true] at h
  refine ⟨stand_kind h.1, fun h1 => ?_⟩
  have h2 : haveB id n = true := h.2.1
  unfold haveB at h2
  by_cases hz : noZ id
  · unfold noZ at hz
    rcases hz with rfl | rfl | rfl | rfl <;> cases h1
  · rw [if_neg hz] at h2
    have := of_decide_eq_true h2
    omega
theorem Bytes_is (place : Int) (l : List P) (A : Option Addr) (c : Nat) (S : ByteArray) (E : Int) (w : World) (hm : l.length ≤ 9223372036854775807) (hcap : l.length ≤ c) (hfit : ∀ p ∈ l, Fit p) (h : PropsAt w w.heap.size A l)
    (hS : bytesStr place l = S) (hE : bytesErr place l = E) :
    Calls Tryz.prog 110 #[.int .i64 place, .slice A l.length c] w fun e w' => e = .returned (.tuple #[.string S, .int .i64 E]) ∧ Below w.heap.size w w' := by
  have H := Lib.hid h
  have HF := Lib.hid hfit
  clear h hfit
  obtain ⟨x, hx⟩ : ∃ x, placeB place = x := ⟨_, rfl⟩
  have HP := Lib.hid (fun W => isPlace_is place x W hx)
  cases x with
  | false =>
    obtain ⟨e1, e2⟩ := bytes_no (props_place (l := l) hx)
    obtain rfl : ⟨#[]⟩ = S := e1.symm.trans hS
    obtain rfl : 1 = E := e2.symm.trans hE
    clear hx hS hE e1 e2
    go_enter Tryz.func110, Tryz.ntmps110
    go_wp2_with (go_at_call 136; refine (HP.out _).mono ?_; rintro e w' ⟨rfl, rfl⟩)
    go_ret2
    exact ⟨rfl, Below.refl _ _⟩
  | true =>
  by_cases h8 : 8 < l.length
  · obtain ⟨e1, e2⟩ := bytes_no (props_many (place := place) h8)
    obtain rfl : ⟨#[]⟩ = S := e1.symm.trans hS
    obtain rfl : 1 = E := e2.symm.trans hE
    clear hx hS hE e1 e2
    go_enter Tryz.func110, Tryz.ntmps110
    go_wp2_with (go_at_call 136; refine (HP.out _).mono ?_; rintro e w' ⟨rfl, rfl⟩)
    go_ret2
    exact ⟨rfl, Below.refl _ _⟩
  have HG := Lib.hid (props_few hx (show l.length ≤ 8 by omega))
  have hd8 : decide (8 < (l.length : Int)) = false := by simp; omega
  have hl8 : l.length ≤ 8 := by omega
  have HS := Lib.hid hS
  have HE := Lib.hid hE
  clear hx hS hE
  go_enter Tryz.func110, Tryz.ntmps110
  go_wp2_with (go_at_call 136; refine (HP.out _).mono ?_; rintro e w' ⟨rfl, rfl⟩)
  have HB := Lib.hid (BSt.mk (w := w) (A := A) (l := l) (built_new w) (H.out.alloc (Nat.le_refl _) _) ((Below.refl _ _).alloc (Nat.le_refl _) _))
  obtain ⟨b, hb⟩ : ∃ b, w.heap.size = b := ⟨_, rfl⟩
  have hBb : BSt w A l b ⟨#[]⟩ (w.alloc (.cells #[.pointer none, .slice none 0 0] 107)) := by rw [← hb]; exact HB.out
  rw [hb]
  have HB0 := Lib.hid hBb
  clear hb hBb HB
  go_loopw [23] (fun i wr => ∃ k : Nat, k ≤ l.length ∧ i = .int .i64 (k : Int) ∧ BSt w A l b (restStr (l.take k)) wr ∧ goodL place [] l = goodL place (l.take k) (l.drop k) ∧ (restStr (l.take k)).size ≤ 2053 * k) (fun i _ => l.length - (RowKit.intOf i).toNat)
  case atStart => exact ⟨0, Nat.zero_le _, rfl, HB0.out, rfl, by rw [List.take_zero]; decide⟩
  case round =>
    obtain ⟨k, hk, rfl, hst, hgood, hsz⟩ := hrel
    have HT := Lib.hid hst
    have HGD := Lib.hid hgood
    have hsz2 : (restStr (l.take k)).size ≤ 16424 := by omega
    have HZ := Lib.hid hsz
    clear hst hgood hsz HB0
    by_cases hlt : k < l.length
    · have HR := Lib.hid (rest_step hlt)
      have HGS := Lib.hid (HGD.out.trans (good_step hlt))
      have hfp : Fit l[k] := HF.out _ (List.getElem_mem hlt)
      obtain ⟨b0, o, rfl, hb0, hc⟩ := H.out.some_ (by omega)
      obtain ⟨_, _, hAeq, _, hcw⟩ := HT.out.out.2.1.some_ (by omega)
      obtain ⟨rfl, rfl⟩ : b0 = _ ∧ o = _ := by injection hAeq with e; injection e with e1 e2; exact ⟨e1, e2⟩
      obtain ⟨d0, d1, d2, d3⟩ := hcw k hlt
      clear hc hcw hAeq
      obtain ⟨q, hq⟩ : ∃ q, l[k] = q := ⟨_, rfl⟩
      rw [hq] at d0 d1 d2 d3 hfp
      have hqq : l[k] = q := hq
      have HR2 : Hid (restStr (l.take (k + 1)) = restStr (l.take k) ++ oneStr q) := by rw [← hqq]; exact HR.out
      have HGS2 : Hid (goodL place [] l = (goodB place (l.take k) q && goodL place (l.take (k + 1)) (l.drop (k + 1)))) := by rw [← hqq]; exact HGS.out
      clear hq hqq HR HGS
      obtain ⟨id, n, s, v⟩ := q
      have hn1 := hfp.n1
      have hs1 := hfp.hs
      have hv1 := hfp.hv
      obtain ⟨T, hT⟩ : ∃ T, restStr (l.take k) = T := ⟨_, rfl⟩
      rw [hT] at HT hsz2 HR2 HZ
      clear hT
      have HBP := BStP.new (cs := #[.int .i64 id, .int .i64 n, .string s, .string v]) HT.out 103
      have hkI : (k : Int) < (l.length : Int) := by omega
      obtain ⟨y, hy⟩ : ∃ y, mayB place (l.take k) ⟨id, n, s, v⟩ = y := ⟨_, rfl⟩
      have HM := Lib.hid (fun (W : World) (g : Nat) (h : BStP w (some ⟨b0, o, none⟩) l b T g #[.int .i64 id, .int .i64 n, .string s, .string v] W) => mayFollow_take place id n s v l k (some ⟨b0, o, none⟩) c w.heap.size y W hk hm h.out.1.out.2.1 h.out.1.out.2.2.size hy)
      have HY := Lib.hid hy
      clear hy
      go_wp2_with fail
      obtain ⟨g, hg⟩ : ∃ g, wr.heap.size = g := ⟨_, rfl⟩
      rw [hg] at HBP ⊢
      clear hg
      generalize wr.alloc (.cells #[.int .i64 id, .int .i64 n, .string s, .string v] 103) = wa at HBP ⊢
      obtain ⟨e0, e1, e2, e3⟩ := HBP.four
      clear d0 d1 d2 d3
      have hk0 : (0 : Int) ≤ (k : Int) := by omega
      have hkc : (k : Int) ≤ (c : Int) := by omega
      go_region_held3 (fun W => W.cell? ⟨g, 0, none⟩ = some (.int .i64 id) ∧ W.cell? ⟨g, 1, none⟩ = some (.int .i64 n) ∧ W.cell? ⟨g, 2, none⟩ = some (.string s) ∧ W.cell? ⟨g, 3, none⟩ = some (.string v) ∧ BStP w (some ⟨b0, o, none⟩) l b T g #[.int .i64 id, .int .i64 n, .string s, .string v] W)
        (first | exact ⟨f0, f1, f2, f3, st⟩ | exact ⟨e0, e1, e2, e3, HBP.drewN 1⟩)
        (first | (go_at_call 137; (with_reducible refine (HM.out _ g ?_).mono ?_); (exact HBP.drewN 1); rintro e w1 ⟨rfl, hb1⟩; have st := (HBP.drewN 1).below hb1; obtain ⟨f0, f1, f2, f3⟩ := st.four))
      have HB1 := Lib.hid st
      clear e0 e1 e2 e3 HBP HM
      have NO : Hid (propsB place l = false → S = ⟨#[]⟩ ∧ E = 1) := fun hp => ⟨HS.out.symm.trans (bytes_no hp).1, HE.out.symm.trans (bytes_no hp).2⟩
      cases y with
      | false =>
        obtain ⟨hS', hE'⟩ := NO.out (HG.out.trans (HGS2.out.trans (by rw [good_may, HY.out]; rfl)))
        have HS' := Lib.hid hS'
        have HE' := Lib.hid hE'
        clear hS' hE'
        go_wp2_with fail
        go_ret2
        exact ⟨by rw [HS'.out, HE'.out]; rfl, HB1.out.out.1.out.2.2⟩
      | true =>
        obtain ⟨hkind, hone⟩ := may_kind HY.out
        cases hval : valB (kindZ id) ⟨id, n, s, v⟩ with
        | false =>
          obtain ⟨hS', hE'⟩ := NO.out (HG.out.trans (HGS2.out.trans (by rw [good_may, HY.out]; show ((true && valB (kindZ id) ⟨id, n, s, v⟩) && _) = false; rw [hval]; rfl)))
          have HS' := Lib.hid hS'
          have HE' := Lib.hid hE'
          have HO := Lib.hid (fun W => putOne_no id n s v W hkind hone hn1 (by omega) (by omega) hval)
          clear hS' hE' hkind hone hval
          go_wp2_with fail
          refine (HO.out _).mono ?_
          rintro e w2 ⟨rfl, hb2⟩
          have HB2 := Lib.hid (HB1.out.below hb2)
          clear hb1 hb2 st f0 f1 f2 f3 HO HB1
          go_wp2_with fail
          go_ret2
          exact ⟨by rw [HS'.out, HE'.out]; rfl, HB2.out.out.1.out.2.2⟩
        | true =>
          obtain ⟨U, hU⟩ : ∃ U, oneStr ⟨id, n, s, v⟩ = U := ⟨_, rfl⟩
          have hUz : U.size ≤ 2053 := by rw [← hU]; exact one_size id n s v hkind hval
          have HO := Lib.hid (fun W => putOne_yes id n s v U W hkind hn1 (by omega) hval hU)
          have HG3 := Lib.hid (HGS2.out.trans (by rw [good_may, HY.out]; show ((true && valB (kindZ id) ⟨id, n, s, v⟩) && _) = _; rw [hval]; rfl : _ = goodL place (l.take (k + 1)) (l.drop (k + 1))))
          have HR3 : Hid (restStr (l.take (k + 1)) = T ++ U) := by rw [← hU]; exact HR2.out
          clear hkind hone hval hU
          go_wp2_with fail
          refine (HO.out _).mono ?_
          rintro e w2 ⟨rfl, hb2⟩
          have HB2 := Lib.hid (HB1.out.below hb2)
          clear hb1 hb2 st f0 f1 f2 f3 HO HB1
          go_wp2_with (go_at_call 79; refine (WriteString_is w.heap.size b T U _ HB2.out.out.1.out.1 (by omega) HB2.out.out.1.out.2.2.size).mono ?_; rintro e w3 ⟨⟨z, rfl⟩, hbu, hb3⟩)
          have HB3 := Lib.hid (HB2.out.out.1.write hbu hb3)
          clear hbu hb3 HB2
          go_roundw
          case rel => exact ⟨k + 1, hlt, by go_num, by rw [HR3.out]; exact HB3.out, HG3.out, by rw [HR3.out, ByteArray.size_append]; have := HZ.out; omega⟩
          case measure => simp [RowKit.intOf]; omega
    · obtain rfl : k = l.length := by omega
      have hgo : goodL place [] l = true := by have := HGD.out; rw [List.drop_length] at this; exact this
      have hp : propsB place l = true := HG.out.trans hgo
      have hst := HT.out
      rw [List.take_length] at hst hsz2
      have HT2 := Lib.hid hst
      obtain ⟨R, hR⟩ : ∃ R, restStr l = R := ⟨_, rfl⟩
      rw [hR] at HT2 hsz2
      obtain ⟨N, hN⟩ : ∃ N, strOfNums (numZ R.size) = N := ⟨_, rfl⟩
      have hNz : N.size ≤ 4 := by rw [← hN, strOfNums_size, numZ_len (by omega)]; exact (numLen_le _).2
      have HN := Lib.hid (fun W => Num_is (R.size : Int) N 0 W (by
        rcases numErr_cases (R.size : Int) with ⟨_, _, _, e⟩ | ⟨h0, _⟩
        · rw [e, Int.toNat_natCast, hN]
        · omega) (by
        rcases numErr_cases (R.size : Int) with ⟨_, _, e, _⟩ | ⟨h0, _⟩
        · exact e
        · omega))
      have HS' : Hid (S = N ++ R) := HS.out.symm.trans ((bytes_yes hp).1.trans (by unfold propStr; rw [hR, hN]))
      have HE' : Hid (E = 0) := HE.out.symm.trans (bytes_yes hp).2
      clear hgo hp hst hR hN HT HGD HZ
      go_wp2_with (go_at_call 139; refine (Len_is w.heap.size b R _ HT2.out.out.1).mono ?_; rintro e w' ⟨rfl, rfl⟩)
      refine (HN.out _).mono ?_
      rintro e w4 ⟨rfl, hb4⟩
      have HT3 := Lib.hid (HT2.out.below hb4)
      clear hb4 HT2 HN
      go_wp2_with (go_at_call 80; refine (String_is w.heap.size b R _ HT3.out.out.1 HT3.out.out.2.2.size).mono ?_; rintro e w5 ⟨rfl, hb5⟩)
      go_ret2
      exact ⟨by rw [HS'.out, HE'.out]; rfl, HT3.out.out.2.2.trans hb5⟩
end Go.Proofs.YtiancngpknnkaaaGreat
