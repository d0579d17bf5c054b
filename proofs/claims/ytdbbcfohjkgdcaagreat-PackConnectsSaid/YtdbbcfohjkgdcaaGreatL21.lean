/- The document's own answer: properties are taken, their length ahead. -/
import Derived.Test.YtdbbcfohjkgdcaaGreatL00
import Derived.Test.YtdbbcfohjkgdcaaGreatL11
set_option maxRecDepth 100000
set_option maxHeartbeats 64000000
namespace Go.Proofs.YtdbbcfohjkgdcaaGreat
open Go.RowKit Go.Lib Prp Vbi
theorem tone_of {S : ByteArray} {k : Int} {p : P} {K T : Int} (hid : kindZ (idOf S) = k) (hk : k ≠ 0) (h : tone S = (p, K, T)) :
  inn (tk k (S.extract 1 S.size)).e = T ∧ ((tk k (S.extract 1 S.size)).e = 0 → p = ⟨idOf S, (tk k (S.extract 1 S.size)).n, (tk k (S.extract 1 S.size)).a, (tk k (S.extract 1 S.size)).b⟩ ∧ K = 1 + (tk k (S.extract 1 S.size)).k) := by
 subst hid
 rcases tone_cases S with ⟨h0, _⟩ | ⟨_, he, e⟩ | ⟨_, he, e⟩
 ·exact absurd h0 hk
 ·rw [e] at h
  injection h with h1 h2
  injection h2 with h2 h3
  exact ⟨h3, fun x => absurd x he⟩
 ·rw [e] at h
  injection h with h1 h2
  injection h2 with h2 h3
  exact ⟨by rw [he]; exact h3, fun _ => ⟨h1.symm, h2.symm⟩⟩
theorem RTakeProps_is (place : Int) (s : ByteArray) (L : List P) (K E : Int) (w : World) (hs : s.size ≤ 281474976710656) (hx : placeB place = true) (h : takeP place s = (L, K, E)) :
  Calls Tryz.prog 131 #[.int .i64 place, .string s] w (GivesTake L K E w) := by
 obtain ⟨i0, hi, hz0, hz1, hz2⟩ := info_parts info_prop
 rcases takeP_cases s hx with ⟨E', ht, hE, e⟩ | ⟨m, q, ht, hq, hm, h7, e⟩ | hrest
 ·rw [e] at h
  obtain ⟨rfl, rfl, rfl⟩ : [] = L ∧ 0 = K ∧ E' = E := by
   injection h with h1 h2
   injection h2 with h2 h3
   exact ⟨h1, h2, h3⟩
  have HT := Lib.hid (fun W => RTakeNum_z s 0 0 E' W (by omega) ht)
  have hEb := ne_true hE
  clear hx h e ht hE
  go_enter Tryz.func131, Tryz.ntmps131
  go_wp2_with (go_at_call 83; refine (HT.out _).mono ?_; rintro e w' ⟨rfl, rfl⟩)
  go_ret3
  exact ⟨none, 0, rfl, .nil w⟩
 ·rw [e] at h
  obtain ⟨rfl, rfl, rfl⟩ : [] = L ∧ 0 = K ∧ 7 = E := by
   injection h with h1 h2
   injection h2 with h2 h3
   exact ⟨h1, h2, h3⟩
  have HT := Lib.hid (fun W => RTakeNum_z s (m : Int) (q : Int) 0 W (by omega) ht)
  have hlt : (s.size : Int) - (q : Int) < (m : Int) := by omega
  clear hx h e ht
  go_enter Tryz.func131, Tryz.ntmps131
  go_wp2_with (go_at_call 83; refine (HT.out _).mono ?_; rintro e w' ⟨rfl, rfl⟩)
  go_ret3
  exact ⟨none, 0, rfl, .nil w⟩
 ·obtain ⟨m, q, L', E', ht, hq, hm, h7, hta, hfin⟩ : ∃ (m q : Nat) (L' : List P) (E' : Int), tn s.data.toList = ((m : Int), (q : Int), 0) ∧ q ≤ s.size ∧ m < 268435456 ∧ q + m ≤ s.size ∧ ta place (s.size + 1) [] (s.extract q (q + m)) = (L', E') ∧
    (E' ≠ 0 ∧ L = [] ∧ K = 0 ∧ E = E' ∧ L' = [] ∨ E' = 0 ∧ L = L' ∧ K = (q : Int) + (m : Int) ∧ E = 0) := by
   rcases hrest with ⟨m, q, E', ht, hq, hm, h7, hta, hE, e⟩ | ⟨m, q, L', ht, hq, hm, h7, hta, e⟩
   ·rw [e] at h
    injection h with h1 h2
    injection h2 with h2 h3
    exact ⟨m, q, [], E', ht, hq, hm, h7, hta, .inl ⟨hE, h1.symm, h2.symm, h3.symm, rfl⟩⟩
   ·rw [e] at h
    injection h with h1 h2
    injection h2 with h2 h3
    exact ⟨m, q, L', 0, ht, hq, hm, h7, hta, .inr ⟨rfl, h1.symm, h2.symm, h3.symm⟩⟩
  have HT := Lib.hid (fun W => RTakeNum_z s (m : Int) (q : Int) 0 W (by omega) ht)
  have HTA := Lib.hid hta
  have HF := Lib.hid hfin
  have hlt : ¬ (s.size : Int) - (q : Int) < (m : Int) := by omega
  have hdl : decide ((s.size : Int) - (q : Int) < (m : Int)) = false := decide_eq_false hlt
  have hq0 : (0 : Int) ≤ (q : Int) := by omega
  have hqm : (q : Int) ≤ (q : Int) + (m : Int) := by omega
  have hqs : (q : Int) + (m : Int) ≤ (s.size : Int) := by omega
  have htn : ((q : Int) + (m : Int)).toNat = q + m := by omega
  clear hx h hrest ht hta hfin
  go_enter Tryz.func131, Tryz.ntmps131
  go_wp2_with (go_at_call 83; refine (HT.out _).mono ?_; rintro e w' ⟨rfl, rfl⟩)
  go_loopw [10, 11] (fun x y wr => ∃ (S : ByteArray) (l : List P) (f : Nat) (A : Option Addr) (c : Nat), x = .string S ∧ y = .slice A l.length c ∧ TA w A c l wr ∧ l.length ≤ 8 ∧ S.size ≤ 281474976710656 ∧ S.size < f ∧ ta place f l S = (L', E')) (fun x _ _ => strSz x)
  case atStart => exact ⟨s.extract q (q + m), [], s.size + 1, none, 0, rfl, rfl, .nil w, by simp, by rw [ByteArray.size_extract]; omega, by rw [ByteArray.size_extract]; omega, HTA.out⟩
  case round =>
   obtain ⟨S, l, f, A, c, rfl, rfl, hta, hl8, hS, hSf, hgo⟩ := hrel
   have HR := Lib.hid hta
   have HG := Lib.hid hgo
   clear hta hgo HTA HT
   obtain ⟨f, rfl⟩ : ∃ f0, f = f0 + 1 := ⟨f - 1, by omega⟩
   by_cases h0 : S.size = 0
   ·obtain ⟨rfl, rfl⟩ : l = L' ∧ (0 : Int) = E' := by
     have := (ta_end (place := place) (f := f) (l := l) h0).symm.trans HG.out
     injection this with e1 e2
     exact ⟨e1, e2⟩
    obtain ⟨rfl, rfl, rfl⟩ : L = l ∧ K = (q : Int) + (m : Int) ∧ E = 0 := by
     rcases HF.out with ⟨hh, _⟩ | ⟨_, a1, a2, a3⟩
     ·exact absurd rfl hh
     ·exact ⟨a1, a2, a3⟩
    obtain rfl : S = ByteArray.empty := ByteArray.size_eq_zero_iff.1 h0
    clear HF HG
    go_wp2_with fail
    go_ret3
    exact ⟨A, c, rfl, HR.out⟩
   have hSI : (0 : Int) < (S.size : Int) := by omega
   have hS1 : (1 : Int) ≤ (S.size : Int) := by omega
   have hid := id_at (s := S) (by omega)
   have hb0 := S[0].toNat_lt
   -- an error ends the walk
   have HERR : Hid (E' ≠ 0 → L = [] ∧ K = 0 ∧ E = E') := fun hh => by
    rcases HF.out with ⟨_, a1, a2, a3, _⟩ | ⟨a0, _⟩
    ·exact ⟨a1, a2, a3⟩
    ·exact absurd a0 hh
   obtain ⟨k, hkk⟩ : ∃ k, kindZ (idOf S) = k := ⟨_, rfl⟩
   have HK := Lib.hid (fun W => RKind_is (S[0].toNat : Int) k W (by rw [← hid]; exact hkk))
   by_cases hk0 : k = 0
   ·subst hk0
    obtain ⟨rfl, rfl⟩ : [] = L' ∧ (8 : Int) = E' := by
     have := (ta_bad (place := place) (f := f) (l := l) h0 (by rw [tone_none hkk]; decide)).symm.trans HG.out
     rw [tone_none hkk] at this
     injection this with e1 e2
     exact ⟨e1, e2⟩
    obtain ⟨rfl, rfl, rfl⟩ := HERR.out (by decide)
    clear hkk HF HG HERR hid
    go_wp2_with (go_at_call 98; refine (HK.out _).mono ?_; rintro e w' ⟨rfl, rfl⟩)
    go_ret3
    exact ⟨none, 0, rfl, .mk (World.ownsRow_nil _ _ _ _) HR.out.out.2⟩
   obtain ⟨⟨i, n, a, b⟩, KK, T, ht⟩ : ∃ p K T, tone S = (p, K, T) := ⟨_, _, _, rfl⟩
   obtain ⟨hT1, hT2⟩ := tone_of hkk hk0 ht
   have HV := Lib.hid (fun W => value_is k (S[0].toNat : Int) (S.extract 1 S.size) W (by rw [ByteArray.size_extract]; omega) hk0 (by rw [← hid]; exact hkk))
   have hasz : (tk k (S.extract 1 S.size)).a.size ≤ 9223372036854775807 := by
    have h1 := tk_sz k (S.extract 1 S.size)
    rw [ByteArray.size_extract] at h1
    omega
   obtain ⟨⟨tn0, ta0, tb0, tk0, te0⟩, htk⟩ : ∃ t, tk k (S.extract 1 S.size) = t := ⟨_, rfl⟩
   rw [htk] at hT1 hT2 HV hasz
   rw [hid] at hT2
   have HTO := Lib.hid ht
   have hk0b : (k == 0) = false := ne_false hk0
   clear htk hkk ht hid
   by_cases hT : te0 = 0
   ·subst hT
    obtain ⟨hp, hKK⟩ := hT2 rfl
    obtain ⟨rfl, rfl, rfl, rfl⟩ : i = (S[0].toNat : Int) ∧ n = tn0 ∧ a = ta0 ∧ b = tb0 := by
     injection hp with x1 x2 x3 x4
     exact ⟨x1, x2, x3, x4⟩
    obtain rfl : 0 = T := by rw [← hT1]; rfl
    obtain ⟨j, hj, hj1, hj2⟩ : ∃ j : Nat, KK = (j : Int) ∧ 1 ≤ j ∧ j ≤ S.size := by
     have := tone_bound (s := S) (by omega) (by rw [HTO.out])
     rw [HTO.out] at this
     have h1 : 1 ≤ KK := this.1
     have h2 : KK ≤ (S.size : Int) := this.2
     exact ⟨KK.toNat, by omega, by omega, by omega⟩
    have hKK2 : KK = 1 + tk0 := hKK
    obtain rfl : tk0 = (j : Int) - 1 := by omega
    obtain ⟨g, hg⟩ : ∃ g, standB place (S[0].toNat : Int) = g := ⟨_, rfl⟩
    have HSI := Lib.hid (fun W => stands_is place (S[0].toNat : Int) g W hg)
    obtain ⟨v, hv⟩ : ∃ v, twiceB place (S[0].toNat : Int) l = v := ⟨_, rfl⟩
    have HTI := Lib.hid (fun (W : World) (h : TA w A c l W) => twice_is place (S[0].toNat : Int) l A c W.heap.size v W (by omega) h.at hv)
    obtain ⟨u, hu⟩ : ∃ u, fitsB ⟨(S[0].toNat : Int), n, a, b⟩ = u := ⟨_, rfl⟩
    have HFI := Lib.hid (fun W => fits_is (S[0].toNat : Int) n a b u W hasz hu)
    have HM : Hid (mayB place l ⟨(S[0].toNat : Int), n, a, b⟩ = (g && (u && !v))) := by
     show _ = _
     have hmm := tone_may (s := S) (place := place) (l := l) (by rw [HTO.out])
     rw [HTO.out] at hmm
     rw [← hmm]
     unfold goodB
     show (standB place (S[0].toNat : Int) && (fitsB ⟨(S[0].toNat : Int), n, a, b⟩ && !twiceB place (S[0].toNat : Int) l)) = _
     rw [hg, hu, hv]
    have HNO : Hid ((g && (u && !v)) = false → [] = L' ∧ (9 : Int) = E') := fun hf => by
     have := (ta_no (place := place) (f := f) (l := l) h0 (by rw [HTO.out]) (by rw [HTO.out]; exact HM.out.trans hf)).symm.trans HG.out
     injection this with e1 e2
     exact ⟨e1, e2⟩
    have hj0 : (0 : Int) ≤ (j : Int) := by omega
    have hjS : (j : Int) ≤ (S.size : Int) := by omega
    have hwr : IntKind.i64.wrap (1 + ((j : Int) - 1)) = (j : Int) := by rw [show (1 + ((j : Int) - 1)) = (j : Int) by omega]; exact IntWalk.i64_in _ (by omega)
    subst hj
    clear hg hu hv hT1 hT2 hp hKK hKK2
    go_wp2_with (go_at_call 98; refine (HK.out _).mono ?_; rintro e w' ⟨rfl, rfl⟩)
    refine (HV.out _).mono ?_
    rintro e w1 ⟨i', n', K', a', b', rfl, hval, hb1⟩
    obtain ⟨v1, v2, v3, v4, v5⟩ := hval rfl
    have v2 : n' = n := v2
    have v3 : a' = a := v3
    have v4 : b' = b := v4
    have v5 : K' = (j : Int) - 1 := v5
    rw [v1, v2, v3, v4, v5]
    have HR1 := Lib.hid (HR.out.below hb1)
    clear hb1 HR HV HK hval v1 v2 v3 v4 v5
    have HB0 := Lib.hid (TB.new HR1.out 99 #[.int .i64 (S[0].toNat : Int), .int .i64 n, .string a, .string b])
    clear HR1
    rw [show inn (Tk.e ⟨n, a, b, (j : Int) - 1, 0⟩) = 0 from rfl]
    have HB1 := HB0.out
    obtain ⟨gb, hgb⟩ : ∃ gb, w1.heap.size = gb := ⟨_, rfl⟩
    rw [hgb] at HB1
    clear HB0
    have HB0 := Lib.hid HB1
    clear HB1
    cases g with
    | false =>
     obtain ⟨rfl, rfl⟩ := HNO.out rfl
     obtain ⟨rfl, rfl, rfl⟩ := HERR.out (by decide)
     clear HG HTO HM HNO HERR HF HTI HFI
     go_wp2_with fail
     refine (HSI.out _).mono ?_
     rintro e w2 ⟨rfl, hb2⟩
     have HB2 := Lib.hid (HB0.out.below hb2)
     clear hb2 HB0 HSI
     go_wp2_with fail
     go_ret3
     exact ⟨none, 0, rfl, .mk (World.ownsRow_nil _ _ _ _) HB2.out.out.1.out.2⟩
    | true =>
     go_wp2_with fail
     refine (HSI.out _).mono ?_
     rintro e w2 ⟨rfl, hb2⟩
     have HB2 := Lib.hid (HB0.out.below hb2)
     clear hb2 HB0 HSI hgb
     cases v with
     | true =>
      obtain ⟨rfl, rfl⟩ := HNO.out (by cases u <;> rfl)
      obtain ⟨rfl, rfl, rfl⟩ := HERR.out (by decide)
      clear HG HTO HM HNO HERR HF HFI
      go_wp2_with (go_at_call 74; refine (HTI.out _ HB2.out.out.1).mono ?_; rintro e w' ⟨rfl, rfl⟩)
      go_ret3
      exact ⟨none, 0, rfl, .mk (World.ownsRow_nil _ _ _ _) HB2.out.out.1.out.2⟩
     | false =>
      obtain ⟨c0, c1, c2, c3⟩ := HB2.out.four
      go_wp2_with (go_at_call 74; refine (HTI.out _ HB2.out.out.1).mono ?_; rintro e w' ⟨rfl, rfl⟩)
      refine (HFI.out _).mono ?_
      rintro e w3 ⟨rfl, hb3⟩
      have HT2 := Lib.hid (HB2.out.below hb3)
      clear hb3 HB2 HFI HTI c0 c1 c2 c3
      cases u with
      | false =>
       obtain ⟨rfl, rfl⟩ := HNO.out rfl
       obtain ⟨rfl, rfl, rfl⟩ := HERR.out (by decide)
       clear HG HTO HM HNO HERR HF
       go_wp2_with fail
       go_ret3
       exact ⟨none, 0, rfl, .mk (World.ownsRow_nil _ _ _ _) HT2.out.out.1.out.2⟩
      | true =>
       by_cases h8 : l.length = 8
       ·obtain ⟨rfl, rfl⟩ : [] = L' ∧ (2 : Int) = E' := by
         have := (ta_full (place := place) (f := f) (l := l) h0 (by rw [HTO.out]) (by rw [HTO.out]; exact HM.out) h8).symm.trans HG.out
         injection this with e1 e2
         exact ⟨e1, e2⟩
        obtain ⟨rfl, rfl, rfl⟩ := HERR.out (by decide)
        have h8I : (l.length : Int) = 8 := by omega
        clear HG HTO HM HNO HERR HF
        go_wp2_with fail
        go_ret3
        exact ⟨none, 0, rfl, .mk (World.ownsRow_nil _ _ _ _) HT2.out.out.1.out.2⟩
       ·have HG2 : Hid (ta place f (l ++ [⟨(S[0].toNat : Int), n, a, b⟩]) (S.extract j S.size) = (L', E')) := by
         have := (ta_step (place := place) (f := f) (l := l) h0 (by rw [HTO.out]) (by rw [HTO.out]; exact HM.out) h8).symm.trans HG.out
         rw [HTO.out] at this
         exact this
        have h8b : ((l.length : Int) == 8) = false := ne_false (by omega)
        obtain ⟨c0, c1, c2, c3⟩ := HT2.out.four
        have HS : Hid (flat (l ++ [⟨(S[0].toNat : Int), n, a, b⟩]) = flat l ++ pcells ⟨(S[0].toNat : Int), n, a, b⟩) := flat_snoc _ _
        clear HG HTO HM HNO HERR
        go_wp2_with (at_builtin; refine wpList_append_own _ rfl _ _ 26 rfl w.heap.size 99 i0 (.agg #[.int .i64 0, .int .i64 0, .string ⟨#[]⟩, .string ⟨#[]⟩]) 4 48 Tryz.underlying26 hi hz0 hz1 hz2 rfl (by decide) _ _ _ rfl (HT2.out.out.1.out.1.alloc _) ⟨w3.heap.size, 0, none⟩ 1 1 (pcells ⟨(S[0].toNat : Int), n, a, b⟩) rfl rfl ?c1 ?c2 ?c3 ?c4 ?c5 ?_)
        case c1 => exact fun jj uu h => cells_new w3 _ (pcells ⟨(S[0].toNat : Int), n, a, b⟩) jj uu h
        case c2 => exact one_cells _
        case c3 => unfold maxLen; omega
        case c4 => first | omega | (have := HT2.out.out.1.out.2.size; simp; omega)
        case c5 => have := HT2.out.out.1.out.2.size; simp; omega
        intro v' w4 hown' hgrow _
        have hnx := HT2.out.out.1.out.2.trans (below_alloc_grown HT2.out.out.1.out.2.size HT2.out.out.1.out.1 hgrow)
        have hown2 : w4.ownsRow w.heap.size 99 4 v' (l ++ [(⟨(S[0].toNat : Int), n, a, b⟩ : P)]).length (flat (l ++ [⟨(S[0].toNat : Int), n, a, b⟩])) := by
         rw [HS.out, List.length_append]; exact hown'
        obtain ⟨A', c', rfl⟩ := own_slice hown2
        have HT3 := Lib.hid (TA.mk hown2 hnx)
        clear hown' hgrow hnx hown2 HT2 HS c0 c1 c2 c3
        go_wp2_with fail
        go_roundw
        case rel => exact ⟨_, _, f, A', c', rfl, rfl, HT3.out, by rw [List.length_append]; show _ + 1 ≤ 8; omega, by rw [ByteArray.size_extract]; omega, by rw [ByteArray.size_extract]; omega, HG2.out⟩
        case measure => show (S.extract j S.size).size < S.size; rw [ByteArray.size_extract]; omega
   ·have hTn : T ≠ 0 := by rw [← hT1]; exact fun x => hT (inn_zero.1 x)
    obtain ⟨rfl, rfl⟩ : [] = L' ∧ T = E' := by
     have := (ta_bad (place := place) (f := f) (l := l) h0 (by rw [HTO.out]; exact hTn)).symm.trans HG.out
     rw [HTO.out] at this
     injection this with e1 e2
     exact ⟨e1, e2⟩
    obtain ⟨rfl, rfl, rfl⟩ := HERR.out hTn
    have hTb := ne_true hTn
    have HTT : Hid (inn (Tk.e ⟨tn0, ta0, tb0, tk0, te0⟩) = E) := hT1
    clear HG HERR HTO hT2 hT1 HF
    go_wp2_with (go_at_call 98; refine (HK.out _).mono ?_; rintro e w' ⟨rfl, rfl⟩)
    refine (HV.out _).mono ?_
    rintro e w1 ⟨i', n', K', a', b', rfl, _, hb1⟩
    have HR1 := Lib.hid (HR.out.below hb1)
    clear hb1 HR HV HK
    rw [HTT.out]
    go_wp2_with fail
    go_ret3
    exact ⟨none, 0, rfl, .mk (World.ownsRow_nil _ _ _ _) (HR1.out.below ((Below.refl _ _).alloc (Nat.le_refl _) _)).out.2⟩
end Go.Proofs.YtdbbcfohjkgdcaaGreat
