/- DiskExact, for light scripts of appends and of crashes. -/
import Derived.Test.YtgimecgdfcckbaaDskNewT
namespace Go.Proofs.Ytgimecgdfcckbaa.Dsk
open Go.RowKit Go.Lib Go.Maps

theorem crash_small {F : List Fl} (hG : GoodF F) (ps : List Int) : ∀ t ∈ crashT F ps, t.length ≤ 140737488351232 := fun t ht => by
  obtain ⟨i, hi, rfl⟩ := List.mem_iff_getElem.1 ht
  have hiF : i < F.length := by rw [← crash_len F ps]; exact hi
  rw [crashT_at hiF hi]
  exact Nat.le_trans (kept_le _ _) (Nat.le_trans (hG.small _ (List.getElem_mem hiF)) (by omega))
/-- What a crash kept is laid anew. -/
theorem new_again {F : List Fl} (hG : GoodF F) (ps : List Int) (A B : Option Addr) (c c' : Nat) (W : World) (hA : Strs W W.heap.size A (names F)) (hB : Strs W W.heap.size B (crashT F ps)) :
    Calls Try.prog 11 #[.slice A F.length c, .slice B F.length c'] W fun e w' => GivesNewT (newF (names F) (crashT F ps)) W e w' := by
  have h := New_is (names F) (crashT F ps) A B c c' true _ W hA hB (fun x hx => by
    obtain ⟨f, hf, rfl⟩ := List.mem_map.1 hx
    have := (name_len (hG.name f hf)).2
    omega) (crash_small hG ps) (by rw [names_len]; have := hG.few; omega) (by rw [crash_len]; have := hG.few; omega) (new_rise hG ps) rfl
  rw [names_len, crash_len] at h
  refine h.mono fun e w' h => ?_
  obtain ⟨d, X, e1, e2, e3⟩ := h.2.2 rfl
  exact ⟨d, X, e1, e2, e3, h.1⟩

set_option maxRecDepth 100000 in
set_option maxHeartbeats 8000000 in
theorem exact_12 (ns ts : List (List UInt8)) (xs : List Ac) (A B L : Option Addr) (n c n' c' m cl : Nat) (w : World) (hn : ns.length = n) (ht : ts.length = n') (hm : xs.length = m) (hcA : n ≤ c) (hA : Strs w w.heap.size A ns) (hB : Strs w w.heap.size B ts) (hL : ActsAt w w.heap.size L xs)
    (s1 : ∀ x ∈ ns, x.length ≤ 8000) (s2 : ∀ x ∈ ts, x.length ≤ 8000) (s3 : ∀ x ∈ xs, x.nm.length ≤ 8000 ∧ x.to.length ≤ 8000 ∧ x.s.length ≤ 8000 ∧ x.ps.length ≤ 8000) (l1 : n ≤ 8000) (l2 : n' ≤ 8000) (l3 : m ≤ 200) (hh : heavyB ns ts xs = false) (hmay : mayFrom [] ns ts = true) (hk : ∀ x ∈ xs, x.d = 3 ∨ x.d = 12) :
    Calls Try.prog 32 #[.agg #[.slice A n c, .slice B n' c', .slice L m cl]] w fun e w' => e = .returned (.bool true) ∧ Below w.heap.size w w' := by
  have hal := (Below.refl w.heap.size w).alloc (Nat.le_refl _) (.cells #[.slice A n c, .slice B n' c', .slice L m cl] 25)
  have HB0 := Lib.hid (Bk.new w 25 #[.slice A n c, .slice B n' c', .slice L m cl])
  have HX0 := Lib.hid hal
  have HH := Lib.hid (heavy_dk ns ts xs A B L n c n' c' m cl false _ hn ht hm (hA.on hal) (hB.on hal) (hL.on hal) (fun x hx => Nat.le_trans (s1 x hx) (by omega)) (fun x hx => Nat.le_trans (s2 x hx) (by omega)) (fun x hx => by obtain ⟨h1, h2, h3, h4⟩ := s3 x hx; exact ⟨by omega, by omega, by omega, by omega⟩) (by omega) (by omega) (by omega) hh)
  have HC1 : Hid (∀ W, Below w.heap.size w W → Calls Try.prog 37 #[.slice A n c] W fun e w' => GivesCopyS ns n W e w') := Lib.hid (fun W h => CopyStrings_is ns A n c W hn (by omega) (hA.on h))
  have HC2 : Hid (∀ W, Below w.heap.size w W → Calls Try.prog 37 #[.slice B n' c'] W fun e w' => GivesCopyS ts n' W e w') := Lib.hid (fun W h => CopyStrings_is ts B n' c' W ht (by omega) (hB.on h))
  have HNw : Hid (∀ W A1 c1 B1 c2, Strs W W.heap.size A1 ns → Strs W W.heap.size B1 ts → Calls Try.prog 11 #[.slice A1 n c1, .slice B1 n' c2] W fun e w' => GivesNewT (newF ns ts) W e w') := Lib.hid (fun W A1 c1 B1 c2 h1 h2 => by
    subst hn ht
    refine (New_is ns ts A1 B1 c1 c2 true _ W h1 h2 (fun x hx => Nat.le_trans (s1 x hx) (by omega)) (fun x hx => Nat.le_trans (s2 x hx) (by omega)) (by omega) (by omega) hmay rfl).mono fun e w' h => ?_
    obtain ⟨d, X, e1, e2, e3⟩ := h.2.2 rfl
    exact ⟨d, X, e1, e2, e3, h.1⟩)
  have HMy : Hid (∀ W, Below w.heap.size w W → Calls Try.prog 38 #[.slice A n c, .slice B n' c'] W fun e w' => GivesMay true W e w') := Lib.hid (fun W h => RMay_is ns ts A B n n' c c' W true hn ht hcA (by omega) (by omega) (fun x hx => Nat.le_trans (s1 x hx) (by omega)) (fun x hx => Nat.le_trans (s2 x hx) (by omega)) (hA.on h) (hB.on h) hmay)
  have hmy := may_none.1 hmay
  have HRn : Hid (∀ W, Below w.heap.size w W → Calls Try.prog 39 #[.slice A n c, .slice B n' c'] W fun e w' => GivesRNew (newF ns ts) W e w') := Lib.hid (fun W h => by
    have e : n' = n := by rw [← hn, ← ht]; exact hmy.1.symm
    subst e
    exact RNew_is ns ts A B n' c c' W hn ht (by omega) (hA.on h) (hB.on h))
  have HGo : Hid (GoodF (newF ns ts)) := Lib.hid (good_from good_none hmay)
  have HL := Lib.hid hL
  have HM := Lib.hid hm
  have HK := Lib.hid hk
  have HS3 := Lib.hid s3
  have HNm := Lib.hid (fun (x : Int) W => num_is x W)
  have HWk := Lib.hid (fun W => wakes_is W)
  clear hA hB hL s1 s2 s3 hn ht hm hal hh hmay hmy hk
  go_enter Try.func32, Try.ntmps32
  go_upto_region 1 with fail
  generalize w.alloc _ = wa at HB0 HX0 HH ⊢
  have c0 := HB0.out.cell 0
  have c1 := HB0.out.cell 1
  have c2 := HB0.out.cell 2
  simp at c0 c1 c2
  go_wp2_with fail
  refine HH.out.mono ?_
  rintro e w1 ⟨rfl, hb1⟩
  have HX1 := Lib.hid (HX0.out.trans (hb1.mono HX0.out.size))
  have HB1 := Lib.hid (HB0.out.below hb1)
  clear hb1 HH c0 c1 c2
  have c0 := HB1.out.cell 0
  have c1 := HB1.out.cell 1
  simp at c0 c1
  have hX1d : Below w.heap.size w w1.drew := HX1.out.drew
  have hlw : w.heap.size < w1.heap.size := HB1.out.lt
  go_wp2_with fail
  go_region_held3 (fun W' => W'.cell? ⟨w.heap.size, 0, none⟩ = some (.slice A n c) ∧ W'.cell? ⟨w.heap.size, 1, none⟩ = some (.slice B n' c'))
    (first | exact ⟨c0, c1⟩ | exact ⟨(hb3.cell (p := ⟨w.heap.size, 0, none⟩) hlw).trans c0, (hb3.cell (p := ⟨w.heap.size, 1, none⟩) hlw).trans c1⟩ | exact ⟨((hb3.trans (hb4.mono hb3.size)).cell (p := ⟨w.heap.size, 0, none⟩) hlw).trans c0, ((hb3.trans (hb4.mono hb3.size)).cell (p := ⟨w.heap.size, 1, none⟩) hlw).trans c1⟩ | exact ⟨(((hb3.trans (hb4.mono hb3.size)).trans (hb5.mono (hb3.trans (hb4.mono hb3.size)).size)).cell (p := ⟨w.heap.size, 0, none⟩) hlw).trans c0, (((hb3.trans (hb4.mono hb3.size)).trans (hb5.mono (hb3.trans (hb4.mono hb3.size)).size)).cell (p := ⟨w.heap.size, 1, none⟩) hlw).trans c1⟩)
    (first | ((go_at_call 11; refine (HNw.out _ _ _ _ _ (hs1.on hb4) hs2).mono ?_; rintro e w5 ⟨d, X5, rfl, hdk5, hx5, hb5⟩)) | ((go_at_call 37; refine (HC2.out _ (hX1d.trans (hb3.mono hX1d.size))).mono ?_; rintro e w4 ⟨A2, k2, rfl, hs2, hb4⟩)) | ((go_at_call 37; refine (HC1.out _ hX1d).mono ?_; rintro e w3 ⟨A1, k1, rfl, hs1, hb3⟩)))
  have h15 := hX1d.trans (hb3.mono hX1d.size)
  have h25 := h15.trans (hb4.mono h15.size)
  have HX5 := Lib.hid (h25.trans (hb5.mono h25.size))
  have h34 : Below w1.heap.size w1.drew w4 := hb3.trans (hb4.mono hb3.size)
  have h35 : Below w1.heap.size w1.drew w5 := h34.trans (hb5.mono h34.size)
  have HB5 := Lib.hid (HB1.out.drew.below h35)
  have h45 : w1.heap.size ≤ w4.heap.size := h34.size
  have HDk5 := Lib.hid hdk5
  have HXx5 : Hid (∀ k, X5 k → w1.heap.size ≤ k) := Lib.hid (fun k hk => Nat.le_trans h45 (hx5 k hk))
  have HL1 : Hid (Below w1.heap.size w1 w5) := Lib.hid (((Below.refl w1.heap.size w1).drew).trans h35)
  clear h15 h25 h34 h35 h45 hb3 hb4 hb5 hs1 hs2 c0 c1 hX1d HC1 HC2 HNw hdk5 hx5
  have c0 := HB5.out.cell 0
  have c1 := HB5.out.cell 1
  simp at c0 c1
  go_wp2_with fail
  refine (HMy.out _ HX5.out).mono ?_
  rintro e w6 ⟨rfl, hb6⟩
  have hx6 := HX5.out.trans (hb6.mono HX5.out.size)
  have HX6 := Lib.hid hx6
  have HDk6 := Lib.hid (HDk5.out.below hb6)
  have HL6 := Lib.hid (HL1.out.trans (hb6.mono HL1.out.size))
  have HB6 := Lib.hid (HB5.out.below hb6)
  clear hb6 HMy c0 c1 hx6
  have c0 := HB6.out.cell 0
  have c1 := HB6.out.cell 1
  simp at c0 c1
  go_wp2_with (go_at_call 12; refine (HNm.out _ _).mono ?_; rintro e w' ⟨rfl, rfl⟩)
  refine (HRn.out _ HX6.out).mono ?_
  rintro e w7 ⟨rfl, Y7, hrk7, hb7, hy7⟩
  have HBo := Lib.hid (both_made (w0 := w1) HDk6.out HXx5.out HL6.out hb7 hrk7 hy7)
  have HX7 := Lib.hid (HX6.out.trans (hb7.mono HX6.out.size))
  clear hrk7 hb7 hy7 HRn c0 c1
  obtain ⟨r, hr⟩ : ∃ r, w6.heap.size = r := ⟨_, rfl⟩
  rw [hr] at HBo ⊢
  clear hr
  have HL7 := Lib.hid (HL.out.below HX1.out)
  obtain ⟨g0, hg0⟩ : ∃ g0, w.heap.size = g0 := ⟨_, rfl⟩
  have HG0 := Lib.hid hg0
  have HX1' := HX1
  rw [hg0] at HB1 HL7 hlw ⊢
  clear hg0
  go_wp2_with fail
  go_loopw [3, 5, 6] (fun p3 p5 i wr => ∃ (k dd rr : Nat) (F : List Fl), k ≤ m ∧ p3 = .pointer (some ⟨dd, 0, none⟩) ∧ p5 = .pointer (some ⟨rr, 0, none⟩) ∧ i = .int .i64 (k : Int) ∧ Both w1 wr dd rr F F) (fun _ _ i _ => m - (RowKit.intOf i).toNat)
  case atStart => exact ⟨0, d, r, newF ns ts, Nat.zero_le _, rfl, rfl, rfl, HBo.out⟩
  case round =>
    obtain ⟨k, dd, rr, F, hkm, rfl, rfl, rfl, hbo⟩ := hrel
    have HBot := Lib.hid hbo
    have HG := Lib.hid hbo.good
    have HBw := Lib.hid (HB1.out.below hbo.low)
    have b2 : wr.cell? ⟨g0, 2, none⟩ = some (.slice L m cl) := HBw.out.cell 2
    clear hbo
    by_cases hlt : k < m ∧ k < 40
    · obtain ⟨hlt, h40⟩ := hlt
      have hkx : k < xs.length := by rw [HM.out]; exact hlt
      have hkI : (k : Int) < (m : Int) := by omega
      have hk40 : (k : Int) < 40 := by omega
      obtain ⟨g1, o, rfl, hat⟩ := HL7.out.some_ (by omega)
      have hx := (hat k hkx).below (HBot.out.low.mono (Nat.le_of_lt hlw))
      have hdx := HK.out _ (List.getElem_mem hkx)
      obtain ⟨s1, s2, s3, s4⟩ := HS3.out _ (List.getElem_mem hkx)
      have e0 := hx.cells 0 (by omega)
      have e1 := hx.cells 1 (by omega)
      have e2 := hx.cells 2 (by omega)
      have e3 := hx.cells 3 (by omega)
      have e4 := hx.cells 4 (by omega)
      have e5 := hx.cells 5 (by omega)
      have hpk := (hat k hkx).picks
      clear hx hat
      generalize xs[k] = x at *
      have HPk : Hid (Nums w1 w1.heap.size .i64 x.P x.ps) := Lib.hid (hpk.mono (Nat.le_of_lt hlw))
      have HPs : Hid (x.ps.length ≤ 8000) := Lib.hid s4
      clear hpk
      unfold acells at e0 e1 e2 e3 e4 e5
      simp only [List.getElem?_cons_zero, List.getElem?_cons_succ, Nat.add_zero] at e0 e1 e2 e3 e4 e5
      go_upto_region 13 with fail
      have HBx := Lib.hid (HBot.out.box 60 #[.int .i64 x.d, .int .i64 x.n, .string (str x.nm), .string (str x.to), .string (str x.s), .slice x.P x.ps.length x.pc])
      clear e0 e1 e2 e3 e4 e5 b2 HBot HBw
      generalize wr.alloc _ = W1 at HBx ⊢
      obtain ⟨b7, hb7⟩ : ∃ b7, wr.heap.size = b7 := ⟨_, rfl⟩
      rw [hb7] at HBx ⊢
      clear hb7
      have HCe : Hid (∀ {W : World} {d r : Nat} {F G : List Fl}, BothB 60 b7 #[.int .i64 x.d, .int .i64 x.n, .string (str x.nm), .string (str x.to), .string (str x.s), .slice x.P x.ps.length x.pc] w1 W d r F G → W.cell? ⟨b7, 1, none⟩ = some (.int .i64 x.n) ∧ W.cell? ⟨b7, 2, none⟩ = some (.string (str x.nm)) ∧ W.cell? ⟨b7, 3, none⟩ = some (.string (str x.to)) ∧ W.cell? ⟨b7, 4, none⟩ = some (.string (str x.s))) := Lib.hid (fun h => ⟨h.box.cell 1, h.box.cell 2, h.box.cell 3, h.box.cell 4⟩)
      rcases hdx with hd | hd
      · have HWi := Lib.hid (fun W => within_lit 3 (by decide) W)
        rw [hd] at HBx HCe
        have z0 : W1.cell? ⟨b7, 0, none⟩ = some (.int .i64 3) := HBx.out.box.cell 0
        have HLf := Lib.hid (app_lb HBx.out.drew x.nm x.s (by omega) (by omega))
        go_wp2_with fail
        refine (HWi.out _).mono ?_
        rintro e w8 ⟨rfl, rfl⟩
        go_wp2_with fail
        have hc1 := HCe.out HBx.out
        go_region_held3 (fun W' => W'.cell? ⟨b7, 1, none⟩ = some (.int .i64 x.n) ∧ W'.cell? ⟨b7, 2, none⟩ = some (.string (str x.nm)) ∧ W'.cell? ⟨b7, 3, none⟩ = some (.string (str x.to)) ∧ W'.cell? ⟨b7, 4, none⟩ = some (.string (str x.s)))
          (first | exact hc1 | exact hc8 | exact hc9)
          (first | ((go_at_call 53; refine (app_rb hb8 HG.out x.nm x.s (by omega) (by omega)).mono ?_; rintro e w9 ⟨rfl, hb9⟩; have hc9 := HCe.out hb9)) | ((go_at_call 13; refine HLf.out.mono ?_; rintro e w8 ⟨rfl, hb8⟩; have hc8 := HCe.out hb8)))
        have HB9 := Lib.hid hb9.both
        clear hb8 hb9 z0 hc1 hc8 hc9
        go_wp2_with (go_at_call 12; refine (HNm.out _ _).mono ?_; rintro e w' ⟨rfl, rfl⟩)
        go_roundw
        case rel => exact ⟨k + 1, _, _, _, by omega, rfl, rfl, by go_num, HB9.out⟩
        case measure => simp [RowKit.intOf]; omega
      · have HWi := Lib.hid (fun W => within_lit 12 (by decide) W)
        rw [hd] at HBx
        clear HCe
        have z0 : W1.cell? ⟨b7, 0, none⟩ = some (.int .i64 12) := HBx.out.box.cell 0
        have z5 : W1.cell? ⟨b7, 5, none⟩ = some (.slice x.P x.ps.length x.pc) := HBx.out.box.cell 5
        have HPw := Lib.hid ((HPk.out.below HBx.out.both.low).mono HBx.out.both.low.size)
        have HCn := Lib.hid (CopyNumbers_is x.ps x.P x.ps.length x.pc W1 rfl (by have := HPs.out; omega) HPw.out)
        go_wp2_with fail
        refine (HWi.out _).mono ?_
        rintro e w8 ⟨rfl, rfl⟩
        go_wp2_with fail
        refine HCn.out.mono ?_
        rintro e w9 ⟨P', c9, rfl, hnp, hpb, hb9⟩
        have HCl := Lib.hid (crash_lb HBx.out hb9 P' c9 hnp (fun a ha _ => .inr (hpb a ha)) (by have := HPs.out; omega))
        clear hnp hpb hb9 HCn HPw z0 z5
        go_wp2_with fail
        refine HCl.out.mono ?_
        rintro e wa ⟨A1, k1, B1, k2, rfl, hmid⟩
        have z5 : wa.cell? ⟨b7, 5, none⟩ = some (.slice x.P x.ps.length x.pc) := hmid.box.cell 5
        have HCr := Lib.hid (crash_rb HG.out hmid x.P x.pc (hmid.old_picks HPk.out) (by have := HPs.out; omega))
        clear hmid HCl
        go_wp2_with fail
        refine HCr.out.mono ?_
        rintro e wb ⟨A2, k3, B2, k4, rfl, h4⟩
        have H4 := Lib.hid h4
        clear h4 HCr z5
        have HE1 := Lib.hid (fun W (h : Kept4 w1 W F x.ps A1 B1 A2 B2) => EqStrings_same (names F) F.length A1 A2 k1 k3 _ _ W (names_len F) (by have := HG.out.few; omega) h.na h.ra)
        have HE2 := Lib.hid (fun W (h : Kept4 w1 W F x.ps A1 B1 A2 B2) => EqStrings_same (crashT F x.ps) F.length B1 B2 k2 k4 _ _ W (crash_len F _) (by have := HG.out.few; omega) h.nb h.rb)
        have HNn := Lib.hid (fun W (h : Kept4 w1 W F x.ps A1 B1 A2 B2) => new_again HG.out x.ps A1 B1 k1 k2 W h.na h.nb)
        have HRr := Lib.hid (fun W (h : Kept4 w1 W F x.ps A1 B1 A2 B2) => RNew_is (names F) (crashT F x.ps) A2 B2 F.length k3 k4 W (names_len F) (crash_len F _) (by have := HG.out.few; omega) h.ra h.rb)
        go_wp2_with fail
        refine (HE1.out _ H4.out).mono ?_
        rintro e wc ⟨rfl, n1, hwc⟩
        have H5 : Hid (Kept4 w1 wc F x.ps A1 B1 A2 B2) := Lib.hid (by rw [hwc]; exact H4.out.drewN n1)
        clear hwc H4
        go_wp2_with fail
        refine (HE2.out _ H5.out).mono ?_
        rintro e wd ⟨rfl, n2, hwd⟩
        have H6 : Hid (Kept4 w1 wd F x.ps A1 B1 A2 B2) := Lib.hid (by rw [hwd]; exact H5.out.drewN n2)
        clear hwd HE1 HE2 H5
        go_wp2_with fail
        refine (HNn.out wd H6.out).mono ?_
        rintro e we ⟨d9, X9, rfl, hdk9, hx9, hb9⟩
        have HX9 : Hid (∀ k, X9 k → w1.heap.size ≤ k) := Lib.hid (fun k hk => Nat.le_trans H6.out.low.size (hx9 k hk))
        have HDk9 := Lib.hid hdk9
        have H7 := Lib.hid (H6.out.below hb9)
        clear hdk9 hx9 hb9 H6 HNn
        go_wp2_with fail
        refine (HRr.out we H7.out).mono ?_
        rintro e wf ⟨rfl, Y9, hrk9, hb9, hy9⟩
        have HB9 := Lib.hid (both_made (w0 := w1) HDk9.out HX9.out H7.out.low hb9 hrk9 hy9)
        clear hrk9 hb9 hy9 HRr HX9 HDk9 H7
        obtain ⟨r9, hr9⟩ : ∃ r9, we.heap.size = r9 := ⟨_, rfl⟩
        rw [hr9] at HB9 ⊢
        clear hr9
        go_wp2_with (go_at_call 12; refine (HNm.out _ _).mono ?_; rintro e w' ⟨rfl, rfl⟩)
        go_roundw
        case rel => exact ⟨k + 1, _, _, _, by omega, rfl, rfl, by go_num, HB9.out⟩
        case measure => simp [RowKit.intOf]; omega
    · have HE := Lib.hid (HBot.out.old HBw.out hlw)
      have hm200 : m ≤ 200 := l3
      by_cases h0 : m = 0
      · have hk0 : k = 0 := by omega
        have hkI : ¬ (k : Int) < (m : Int) := by omega
        have hm0 : ¬ (0 : Int) < (m : Int) := by omega
        have HP0 : Hid (Nums w1 w1.heap.size .i64 none []) := Lib.hid .none_
        have HPw : Hid (Nums wr wr.heap.size .i64 none []) := Lib.hid .none_
        have HPx : Hid (∀ a, (none : Option Addr) = some a → 0 < ([] : List Int).length → a.block < w1.heap.size ∨ wr.heap.size ≤ a.block) := Lib.hid (fun a h => by cases h)
        have HPl : Hid (([] : List Int).length ≤ 8000) := Lib.hid (by simp)
        have HCl := Lib.hid (crash_lb HE.out (Below.refl _ _) none 0 (ps := []) HPw.out HPx.out (by have := HPl.out; omega))
        go_wp2_with fail
        refine HCl.out.mono ?_
        rintro e wa ⟨A1, k1, B1, k2, rfl, hmid⟩
        have HCr := Lib.hid (crash_rb HG.out hmid none 0 (hmid.old_picks HP0.out) (by have := HPl.out; omega))
        clear hmid HCl b2
        go_wp2_with fail
        refine HCr.out.mono ?_
        rintro e wb ⟨A2, k3, B2, k4, rfl, h4⟩
        have H4 := Lib.hid h4
        clear h4 HCr
        have HE1 := Lib.hid (fun W (h : Kept4 w1 W F [] A1 B1 A2 B2) => EqStrings_same (names F) F.length A1 A2 k1 k3 _ _ W (names_len F) (by have := HG.out.few; omega) h.na h.ra)
        have HE2 := Lib.hid (fun W (h : Kept4 w1 W F [] A1 B1 A2 B2) => EqStrings_same (crashT F []) F.length B1 B2 k2 k4 _ _ W (crash_len F _) (by have := HG.out.few; omega) h.nb h.rb)
        go_wp2_with fail
        refine (HE1.out _ H4.out).mono ?_
        rintro e wc ⟨rfl, n1, hwc⟩
        have H5 : Hid (Kept4 w1 wc F [] A1 B1 A2 B2) := Lib.hid (by rw [hwc]; exact H4.out.drewN n1)
        clear hwc H4
        go_wp2_with fail
        refine (HE2.out _ H5.out).mono ?_
        rintro e wd ⟨rfl, n2, hwd⟩
        have H6 : Hid (Kept4 w1 wd F [] A1 B1 A2 B2) := Lib.hid (by rw [hwd]; exact H5.out.drewN n2)
        clear hwd HE1 HE2 H5
        go_wp2_with fail
        refine (HWk.out wd).mono ?_
        rintro e we ⟨rfl, hb9⟩
        have HX9 := Lib.hid (H6.out.below hb9).low
        clear hb9 H6
        go_wp2_with fail
        go_ret
        exact ⟨rfl, HX1'.out.trans (HX9.out.mono HX1'.out.size)⟩
      · have h0x : 0 < xs.length := by rw [HM.out]; omega
        have hm0 : (0 : Int) < (m : Int) := by omega
        obtain ⟨g1, o, rfl, hat⟩ := HL7.out.some_ h0x
        have hx0 := hat 0 h0x
        have hx := hx0.below (HBot.out.low.mono (Nat.le_of_lt hlw))
        have e5 := hx.cells 5 (by omega)
        have hpk := hx0.picks
        obtain ⟨_, _, _, s4⟩ := HS3.out _ (List.getElem_mem h0x)
        clear hx hat hx0
        generalize xs[0] = x at *
        unfold acells at e5
        simp only [List.getElem?_cons_zero, List.getElem?_cons_succ, Nat.add_zero, Nat.zero_mul] at e5
        have HP0 : Hid (Nums w1 w1.heap.size .i64 x.P x.ps) := Lib.hid (hpk.mono (Nat.le_of_lt hlw))
        have HPw : Hid (Nums wr wr.heap.size .i64 x.P x.ps) := Lib.hid ((HP0.out.below HBot.out.low).mono HBot.out.low.size)
        have HPx : Hid (∀ a, x.P = some a → 0 < x.ps.length → a.block < w1.heap.size ∨ wr.heap.size ≤ a.block) := Lib.hid (fun a ha hl => by
          rcases hpk with e | ⟨a', e1, e2, _⟩
          · rw [e] at hl; cases hl
          · rw [ha] at e1; cases e1; exact .inl (Nat.lt_trans e2 hlw))
        have HPl : Hid (x.ps.length ≤ 8000) := Lib.hid s4
        clear hpk s4
        by_cases hkm : k < m
        · have hkI : (k : Int) < (m : Int) := by omega
          have hk40 : ¬ (k : Int) < 40 := by omega
          have HCl := Lib.hid (crash_lb HE.out (Below.refl _ _) x.P x.pc (ps := x.ps) HPw.out HPx.out (by have := HPl.out; omega))
          go_wp2_with fail
          refine HCl.out.mono ?_
          rintro e wa ⟨A1, k1, B1, k2, rfl, hmid⟩
          have HCr := Lib.hid (crash_rb HG.out hmid x.P x.pc (hmid.old_picks HP0.out) (by have := HPl.out; omega))
          clear hmid HCl b2 e5
          go_wp2_with fail
          refine HCr.out.mono ?_
          rintro e wb ⟨A2, k3, B2, k4, rfl, h4⟩
          have H4 := Lib.hid h4
          clear h4 HCr
          have HE1 := Lib.hid (fun W (h : Kept4 w1 W F x.ps A1 B1 A2 B2) => EqStrings_same (names F) F.length A1 A2 k1 k3 _ _ W (names_len F) (by have := HG.out.few; omega) h.na h.ra)
          have HE2 := Lib.hid (fun W (h : Kept4 w1 W F x.ps A1 B1 A2 B2) => EqStrings_same (crashT F x.ps) F.length B1 B2 k2 k4 _ _ W (crash_len F _) (by have := HG.out.few; omega) h.nb h.rb)
          go_wp2_with fail
          refine (HE1.out _ H4.out).mono ?_
          rintro e wc ⟨rfl, n1, hwc⟩
          have H5 : Hid (Kept4 w1 wc F x.ps A1 B1 A2 B2) := Lib.hid (by rw [hwc]; exact H4.out.drewN n1)
          clear hwc H4
          go_wp2_with fail
          refine (HE2.out _ H5.out).mono ?_
          rintro e wd ⟨rfl, n2, hwd⟩
          have H6 : Hid (Kept4 w1 wd F x.ps A1 B1 A2 B2) := Lib.hid (by rw [hwd]; exact H5.out.drewN n2)
          clear hwd HE1 HE2 H5
          go_wp2_with fail
          refine (HWk.out wd).mono ?_
          rintro e we ⟨rfl, hb9⟩
          have HX9 := Lib.hid (H6.out.below hb9).low
          clear hb9 H6
          go_wp2_with fail
          go_ret
          exact ⟨rfl, HX1'.out.trans (HX9.out.mono HX1'.out.size)⟩
        · have hkI : ¬ (k : Int) < (m : Int) := by omega
          have HCl := Lib.hid (crash_lb HE.out (Below.refl _ _) x.P x.pc (ps := x.ps) HPw.out HPx.out (by have := HPl.out; omega))
          go_wp2_with fail
          refine HCl.out.mono ?_
          rintro e wa ⟨A1, k1, B1, k2, rfl, hmid⟩
          have HCr := Lib.hid (crash_rb HG.out hmid x.P x.pc (hmid.old_picks HP0.out) (by have := HPl.out; omega))
          clear hmid HCl b2 e5
          go_wp2_with fail
          refine HCr.out.mono ?_
          rintro e wb ⟨A2, k3, B2, k4, rfl, h4⟩
          have H4 := Lib.hid h4
          clear h4 HCr
          have HE1 := Lib.hid (fun W (h : Kept4 w1 W F x.ps A1 B1 A2 B2) => EqStrings_same (names F) F.length A1 A2 k1 k3 _ _ W (names_len F) (by have := HG.out.few; omega) h.na h.ra)
          have HE2 := Lib.hid (fun W (h : Kept4 w1 W F x.ps A1 B1 A2 B2) => EqStrings_same (crashT F x.ps) F.length B1 B2 k2 k4 _ _ W (crash_len F _) (by have := HG.out.few; omega) h.nb h.rb)
          go_wp2_with fail
          refine (HE1.out _ H4.out).mono ?_
          rintro e wc ⟨rfl, n1, hwc⟩
          have H5 : Hid (Kept4 w1 wc F x.ps A1 B1 A2 B2) := Lib.hid (by rw [hwc]; exact H4.out.drewN n1)
          clear hwc H4
          go_wp2_with fail
          refine (HE2.out _ H5.out).mono ?_
          rintro e wd ⟨rfl, n2, hwd⟩
          have H6 : Hid (Kept4 w1 wd F x.ps A1 B1 A2 B2) := Lib.hid (by rw [hwd]; exact H5.out.drewN n2)
          clear hwd HE1 HE2 H5
          go_wp2_with fail
          refine (HWk.out wd).mono ?_
          rintro e we ⟨rfl, hb9⟩
          have HX9 := Lib.hid (H6.out.below hb9).low
          clear hb9 H6
          go_wp2_with fail
          go_ret
          exact ⟨rfl, HX1'.out.trans (HX9.out.mono HX1'.out.size)⟩
end Go.Proofs.Ytgimecgdfcckbaa.Dsk
