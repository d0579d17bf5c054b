/- Package disk: Append, walked. -/
import Derived.Test.YtgimecgdfcckbaaDskAppend
namespace Go.Proofs.Ytgimecgdfcckbaa.Dsk
open Go.RowKit Go.Lib Go.Maps

theorem then_chg {X : Nat → Prop} {w w1 w' : World} {d : Nat} {F : List Fl} {l : Int} {off : Bool} (hc : Chg X w w1) (h : Then X w1 w' d F l off) : Then X w w' d F l off := by
  obtain ⟨X', h1, h2, h3⟩ := h
  refine ⟨X', h1, hc.trans h2 fun k hk => .inl hk, fun k hk => ?_⟩
  rcases h3 k hk with h | h
  · exact .inl h
  · exact .inr (Nat.le_trans hc.size h)
theorem appE_bad {F : List Fl} {n s : List UInt8} (h : nameB n = false) : appE F n s = 1 ∧ appF F n s = F := by
  have : appE F n s = 1 := by unfold appE; rw [h]; rfl
  exact ⟨this, by unfold appF; rw [this]; rfl⟩
theorem appE_full {F : List Fl} {n s : List UInt8} (h : nameB n = true) (hf : fullB F n s.length = true) : appE F n s = 5 ∧ appF F n s = F := by
  have : appE F n s = 5 := by unfold appE; rw [h, hf]; rfl
  exact ⟨this, by unfold appF; rw [this]; rfl⟩
theorem appE_old {F : List Fl} {f : Fl} {s : List UInt8} (hs : Sorted F) (hf : f ∈ F) (h : nameB f.n = true) (hr : roomB F f.t.length s.length = true) : appE F f.n s = 0 ∧ appF F f.n s = put (rm F f.n) ⟨f.n, f.t ++ s, f.s⟩ := by
  have hl := look_of hs hf rfl
  have : appE F f.n s = 0 := by unfold appE fullB; rw [h, hl]; simp [hr]
  refine ⟨this, ?_⟩
  unfold appF
  rw [this, hl, put_rm hs hf]
  exact edit_congr fun g hg hn => by rw [one_name hs hg hf hn]
theorem appE_new {F : List Fl} {n s : List UInt8} (hl : look F n = none) (h : nameB n = true) (h64 : F.length < 64) (hr : roomB F 0 s.length = true) : appE F n s = 0 ∧ appF F n s = put F ⟨n, s, 0⟩ := by
  have : appE F n s = 0 := by
    unfold appE fullB
    rw [h, hl]
    have : decide (64 ≤ F.length) = false := by simp; omega
    simp [hr, this]
  refine ⟨this, ?_⟩
  unfold appF
  rw [this, hl]; rfl

set_option maxRecDepth 100000 in
set_option maxHeartbeats 4000000 in
/-- Append, behind what it counts for, the power on. -/
theorem Append_on (w0 : World) (X : Nat → Prop) (d : Nat) (F : List Fl) (n s : List UInt8) (l : Nat) (off : Bool) (E : Int) (G : List Fl) (hl : l ≤ 1000000) (hn : n.length ≤ 140737488351232) (hs : s.length ≤ 140737488351232)
    (h : Dk w0 X d F (l : Int) off) (hon : tickO l off = false) (hE : appE F n s = E) (hG : appF F n s = G) :
    Calls Try.prog 13 #[.pointer (some ⟨d, 0, none⟩), .string (str n), .string (str s)] w0 fun e w' => e = .returned (.int .i64 E) ∧ Then X w0 w' d G (tickL l : Nat) (tickO l off) := by
  obtain ⟨i0, hi, hz0, hz1, hz2⟩ := info_parts info_byte
  obtain ⟨mv, bx, vl, hk⟩ := h
  have HCt := Lib.hid (count_is l hl hk)
  rw [hon] at HCt ⊢
  obtain ⟨L, hL⟩ : ∃ L, ((tickL l : Nat) : Int) = L := ⟨_, rfl⟩
  rw [hL] at HCt ⊢
  have HN := Lib.hid (fun W => isName_is n (nameB n) W rfl)
  have hsz : (str s).size = s.length := str_size s
  have HX := Lib.hid hk.inX
  clear hk hL hon hl
  cases hb : nameB n with
  | false =>
    obtain ⟨e1, e2⟩ := appE_bad (F := F) (s := s) hb
    have HEE := Lib.hid (e1.symm.trans hE)
    have HGG := Lib.hid (e2.symm.trans hG)
    rw [hb] at HN
    clear hE hG hb e1 e2
    generalize str n = sn at HN
    go_enter Try.func13, Try.ntmps13
    go_wp2_with fail
    refine HCt.out.mono ?_
    rintro e w ⟨rfl, hk, hc⟩
    have c2 := hk.disk.cell 2
    simp at c2
    have HK := Lib.hid hk
    have HC := Lib.hid hc
    clear hk hc HCt
    go_wp2_with fail
    refine (HN.out _).mono ?_
    rintro e w1 ⟨rfl, hb1⟩
    go_wp2_with fail
    go_ret
    refine ⟨by rw [← HEE.out]; rfl, ?_⟩
    rw [← HGG.out]
    exact then_chg HC.out (then_same ⟨_, _, _, HK.out.below hb1⟩ (Chg.of_below hb1))
  | true =>
    rw [hb] at HN
    cases hlk : look F n with
    | some f =>
      obtain ⟨hf, rfl⟩ := look_some hlk
      have HHb := Lib.hid hb
      have HHf := Lib.hid hf
      have HHl := Lib.hid hlk
      clear hb hlk hf
      obtain ⟨sn, hsn⟩ : ∃ sn, str f.n = sn := ⟨_, rfl⟩
      have HSN := Lib.hid hsn
      obtain ⟨ss, hss⟩ : ∃ ss, str s = ss := ⟨_, rfl⟩
      have HSS := Lib.hid hss
      rw [hsn] at HN ⊢
      rw [hss] at hsz ⊢
      clear hsn hss
      have HEE := Lib.hid hE
      have HGG := Lib.hid hG
      clear hE hG
      go_enter Try.func13, Try.ntmps13
      go_wp2_with fail
      refine HCt.out.mono ?_
      rintro e w ⟨rfl, hk, hc⟩
      have c2 := hk.disk.cell 2
      simp at c2
      have HK := Lib.hid hk
      have HC := Lib.hid hc
      clear hk hc HCt
      go_wp2_with fail
      refine (HN.out _).mono ?_
      rintro e w1 ⟨rfl, hb1⟩
      have HK1 := Lib.hid (HK.out.below hb1)
      have HB1 := Lib.hid hb1
      clear hb1 HN c2
      have HLk := Lib.hid (look_is f.n _ (by omega) HK1.out rfl)
      have HV : Hid (lookV false F bx f.n = .iface 49 (.pointer (some ⟨bx f.n, 0, none⟩))) := Lib.hid (by unfold lookV; rw [HHl.out]; rfl)
      rw [HV.out, HSN.out] at HLk
      obtain ⟨bf, hbf⟩ : ∃ bf, bx f.n = bf := ⟨_, rfl⟩
      have HBF := Lib.hid hbf
      rw [hbf] at HLk
      clear hbf
      have haf := fun W => as_file (.pointer (some ⟨bf, 0, none⟩)) W
      go_wp2_with fail
      refine HLk.out.mono ?_
      rintro e w1' ⟨rfl, rfl⟩
      clear HLk HV
      obtain ⟨A, c, hbx0⟩ := HK1.out.slice HHf.out
      rw [HBF.out] at hbx0
      have hold := HK1.out.good.small f HHf.out
      have HRm := Lib.hid (hasRoom_is bf f.t.length s.length A c hs (by omega) HK1.out hbx0)
      have hrE : ∃ R, roomB F f.t.length s.length = R := ⟨_, rfl⟩
      obtain ⟨R, hR⟩ := hrE
      rw [hR] at HRm
      have HR := Lib.hid hR
      clear hR
      cases R with
      | false =>
        go_wp2_with fail
        refine HRm.out.mono ?_
        rintro e w2 ⟨rfl, hb2⟩
        have HB2 := Lib.hid hb2
        clear hb2
        go_wp2_with fail
        go_ret
        obtain ⟨e1, e2⟩ := appE_full (F := F) (s := s) HHb.out (by unfold fullB; rw [HHl.out]; simp [HR.out])
        refine ⟨by rw [← HEE.out, e1]; rfl, ?_⟩
        rw [← HGG.out, e2]
        exact then_chg HC.out (then_same ⟨_, _, _, HK1.out.below HB2.out⟩ ((Chg.of_below HB1.out).trans (Chg.of_below HB2.out) fun _ hk => .inl hk))
      | true =>
        go_wp2_with fail
        refine HRm.out.mono ?_
        rintro e w2 ⟨rfl, hb2⟩
        have HK2 := Lib.hid (HK1.out.below hb2)
        have HB2 := Lib.hid (HB1.out.trans (hb2.mono HB1.out.size))
        have hbx2 := (hb2.cell (p := ⟨bf, 0, none⟩) (World.block_lt_of_cell? w1' _ hbx0)).trans hbx0
        have hfile := HK2.out.file f HHf.out
        rw [HBF.out] at hfile
        have fz := hfile.box.frozen 0
        have hvl : vl f.n = .slice A f.t.length c := by
          have := hfile.box.cell 0
          rw [hbx2] at this
          simp at this
          exact this.symm
        have hrow := hfile.row
        rw [hvl] at hrow
        have hroom : f.t.length + s.length ≤ 65536 := by
          have := HR.out
          unfold roomB at this
          simp only [Bool.and_eq_true, decide_eq_true_eq] at this
          exact this.1
        have HVL := Lib.hid hvl
        have HFl := Lib.hid hfile
        clear hb2 hbx0 HRm hvl hfile
        go_wp2_with (at_builtin; refine wpList_append_str rfl _ _ 42 9 rfl 0 5 i0 Try.underlying42 Try.underlying9 hi hz0 hz1 hz2 _ _ _ rfl hrow ss rfl ?x1 ?x2 (Nat.zero_le _) ?_)
        case x1 => rw [hsz]; unfold maxLen; omega
        case x2 => rw [hsz]; omega
        intro v' w3 hown' hgrow hlie
        obtain ⟨A', c', rfl⟩ := own_any hown'
        have d0 : ∃ v, w3.cell? ⟨bf, 0, none⟩ = some v ∧ w3.frozen? ⟨bf, 0, none⟩ = false := by
          have hb3 : Bk w3 bf 54 #[vl f.n, .int .i64 (f.s : Int)] := HFl.out.box.grown hgrow (fun e => by
            obtain ⟨cs, hb⟩ := row_block hrow e.symm
            exact HFl.out.box.ne hb (by decide) rfl)
          exact ⟨_, hb3.cell 0, hb3.frozen 0⟩
        obtain ⟨v0, d0, fz3⟩ := d0
        obtain ⟨w4, hw4⟩ : ∃ w4, w3.setCell ⟨bf, 0, none⟩ (.slice A' (f.t.length + s.length) c') = w4 := ⟨_, rfl⟩
        obtain ⟨e1, e2⟩ := appE_old (F := F) (f := f) (s := s) HK2.out.good.sorted HHf.out HHb.out HR.out
        have hG1 : GoodF (put (rm F f.n) ⟨f.n, f.t ++ s, f.s⟩) := by rw [← e2]; exact good_app HK2.out.good f.n s
        have hown2 : w3.ownsRow 0 5 1 (.slice A' (f.t.length + s.length) c') (f.t ++ s).length (strCells (str (f.t ++ s))) := by
          rw [List.length_append, ← cells_add, HSS.out]; exact hown'
        have horph := (HK2.out.orph HHf.out).mono (X' := fun k => X k ∨ w.heap.size ≤ k) fun k hk => .inl hk
        rw [HBF.out] at horph
        have hap := fun mv' w5 => app_end (w := w) (w5 := w5) (mv' := mv') (bx' := bx) HK.out HB2.out horph (by rw [HVL.out]; exact hgrow) hown2 (by rw [HVL.out]; exact hlie) hw4 HBF.out (fun _ _ => rfl) (fun g hg => (mem_rm.1 hg).2) hG1
        have hd4 := (hap mv w4).1
        have hm4 := (hap mv w4).2.1
        have HLay := Lib.hid (lay_is d bf L false mv (fun k => X k ∨ w.heap.size ≤ k) F (put (rm F f.n) ⟨f.n, f.t ++ s, f.s⟩) bx bx f.n w4 hn hd4 hm4 HBF.out (fun _ _ => rfl) (fun x => by
          rw [names_put, names_rm]
          by_cases hx : x = f.n
          · simp [hx]
          · simp [hx]) hG1.sorted hG1.few)
        rw [HSN.out] at HLay
        have HAp := Lib.hid hap
        have HW4 := Lib.hid hw4
        clear hown' hgrow hlie hown2 horph hap hd4 hm4 hrow hbx2 fz hw4
        go_wp2_with fail
        rw [HW4.out]
        refine HLay.out.mono ?_
        rintro e w5 ⟨rfl, mv', hLd⟩
        have HLd := Lib.hid hLd
        clear hLd
        go_wp2_with fail
        go_ret
        refine ⟨by rw [← HEE.out, e1]; rfl, ?_⟩
        rw [← HGG.out, e2]
        exact then_chg HC.out ((HAp.out mv' w5).2.2 HLd.out)
    | none =>
      have HHb := Lib.hid hb
      have HHl := Lib.hid hlk
      clear hb hlk
      obtain ⟨sn, hsn⟩ : ∃ sn, str n = sn := ⟨_, rfl⟩
      have HSN := Lib.hid hsn
      obtain ⟨ss, hss⟩ : ∃ ss, str s = ss := ⟨_, rfl⟩
      have HSS := Lib.hid hss
      rw [hsn] at HN ⊢
      rw [hss] at hsz ⊢
      clear hsn hss
      have HEE := Lib.hid hE
      have HGG := Lib.hid hG
      clear hE hG
      have haf := as_no_file (.int .i64 3)
      go_enter Try.func13, Try.ntmps13
      go_wp2_with fail
      refine HCt.out.mono ?_
      rintro e w ⟨rfl, hk, hc⟩
      have c2 := hk.disk.cell 2
      simp at c2
      have HK := Lib.hid hk
      have HC := Lib.hid hc
      clear hk hc HCt
      go_wp2_with fail
      refine (HN.out _).mono ?_
      rintro e w1 ⟨rfl, hb1⟩
      have HK1 := Lib.hid (HK.out.below hb1)
      have HB1 := Lib.hid hb1
      clear hb1 HN c2
      have HLk := Lib.hid (look_is n _ hn HK1.out rfl)
      have HV : Hid (lookV false F bx n = .iface 27 (.int .i64 3)) := Lib.hid (by unfold lookV; rw [HHl.out]; rfl)
      rw [HV.out, HSN.out] at HLk
      go_wp2_with fail
      refine HLk.out.mono ?_
      rintro e w1' ⟨rfl, rfl⟩
      clear HLk HV
      have hbl : Below w1'.heap.size w1' (w1'.alloc (.cells #[.slice none 0 0, .int .i64 0] 54)) := (Below.refl _ w1').alloc (Nat.le_refl _) _
      have hfr := HK1.out.fresh
      have hkW := HK1.out.below hbl
      have HBW := Lib.hid (HB1.out.trans (hbl.mono HB1.out.size))
      go_upto_region 9 with fail
      obtain ⟨W, hW⟩ : ∃ W, w1'.alloc (.cells #[.slice none 0 0, .int .i64 0] 54) = W := ⟨_, rfl⟩
      obtain ⟨b, hb⟩ : ∃ b, w1'.heap.size = b := ⟨_, rfl⟩
      rw [hW] at hfr hkW HBW ⊢
      rw [hb] at hfr ⊢
      have hbB : w.heap.size ≤ b := by rw [← hb]; exact HB1.out.size
      clear hbl hW hb
      have HFr := Lib.hid (hfr.mono (X' := fun k => X k ∨ w.heap.size ≤ k) fun k hk => hk.imp id fun h => Nat.le_trans hbB h)
      have c0 := hkW.disk.cell 0
      simp at c0
      have hln := fun ty => len_run hkW ty
      have b0 := hfr.me.box.cell 0
      simp at b0
      have HKW := Lib.hid hkW
      clear hfr hkW
      have HRm := Lib.hid (hasRoom_is b 0 s.length none 0 hs (by omega) HKW.out b0)
      have hrE : ∃ R, roomB F 0 s.length = R := ⟨_, rfl⟩
      obtain ⟨R, hR⟩ := hrE
      rw [hR] at HRm
      have HR := Lib.hid hR
      clear hR
      by_cases h64 : 64 ≤ F.length
      · have hq : decide ((64 : Int) ≤ (F.length : Int)) = true := by simp; omega
        have H64 := Lib.hid h64
        clear h64
        go_wp2_with fail
        go_ret
        obtain ⟨e1, e2⟩ := appE_full (F := F) (s := s) HHb.out (by unfold fullB; rw [HHl.out]; simp [H64.out])
        refine ⟨by rw [← HEE.out, e1]; rfl, ?_⟩
        rw [← HGG.out, e2]
        exact then_chg HC.out (then_same ⟨_, _, _, HKW.out⟩ (Chg.of_below HBW.out))
      · have hq : decide ((64 : Int) ≤ (F.length : Int)) = false := by simp; omega
        have H64 := Lib.hid h64
        clear h64
        cases R with
        | false =>
          go_wp2_with fail
          refine HRm.out.mono ?_
          rintro e w2 ⟨rfl, hb2⟩
          have HB2 := Lib.hid hb2
          clear hb2
          go_wp2_with fail
          go_ret
          obtain ⟨e1, e2⟩ := appE_full (F := F) (s := s) HHb.out (by unfold fullB; rw [HHl.out]; simp [HR.out])
          refine ⟨by rw [← HEE.out, e1]; rfl, ?_⟩
          rw [← HGG.out, e2]
          exact then_chg HC.out (then_same ⟨_, _, _, HKW.out.below HB2.out⟩ ((Chg.of_below HBW.out).trans (Chg.of_below HB2.out) fun _ hk => .inl hk))
        | true =>
          go_wp2_with fail
          refine HRm.out.mono ?_
          rintro e w2 ⟨rfl, hb2⟩
          have HK2 := Lib.hid (HKW.out.below hb2)
          have HB2 := Lib.hid (HBW.out.trans (hb2.mono HBW.out.size))
          have HF2 := Lib.hid (HFr.out.below hb2)
          have hroom : s.length ≤ 65536 := by
            have := HR.out
            unfold roomB at this
            simp only [Bool.and_eq_true, decide_eq_true_eq] at this
            omega
          have b2 := HF2.out.me.box.cell 0
          simp at b2
          have hrow := HF2.out.me.row
          clear hb2 b0 HRm c0 hln hq
          go_wp2_with (at_builtin; refine wpList_append_str rfl _ _ 42 9 rfl 0 5 i0 Try.underlying42 Try.underlying9 hi hz0 hz1 hz2 _ _ _ rfl hrow ss rfl ?x1 ?x2 (Nat.zero_le _) ?_)
          case x1 => rw [hsz]; unfold maxLen; rw [List.length_nil]; omega
          case x2 => rw [hsz, List.length_nil]; omega
          intro v' w3 hown' hgrow hlie
          obtain ⟨A', c', rfl⟩ := own_any hown'
          have d0 : ∃ v, w3.cell? ⟨b, 0, none⟩ = some v ∧ w3.frozen? ⟨b, 0, none⟩ = false := by
            have hb3 : Bk w3 b 54 #[.slice none 0 0, .int .i64 0] := HF2.out.me.box.grown hgrow (fun e => by cases e)
            exact ⟨_, hb3.cell 0, hb3.frozen 0⟩
          obtain ⟨v0, d0, fz3⟩ := d0
          obtain ⟨w4, hw4⟩ : ∃ w4, w3.setCell ⟨b, 0, none⟩ (.slice A' s.length c') = w4 := ⟨_, rfl⟩
          obtain ⟨e1, e2⟩ := appE_new (F := F) (s := s) HHl.out HHb.out (by have := H64.out; omega) HR.out
          have hG1 : GoodF (put F ⟨n, s, 0⟩) := by rw [← e2]; exact good_app HK2.out.good n s
          have hown2 : w3.ownsRow 0 5 1 (.slice A' s.length c') s.length (strCells (str s)) := by
            have := hown'
            rw [HSS.out]
            simpa [strCells, str_data] using this
          have hnn : ∀ g ∈ F, g.n ≠ n := look_none HHl.out
          have hap := fun mv' w5 => app_end (w := w) (w5 := w5) (mv' := mv') (bx' := fun x => if x = n then b else bx x) HK.out HB2.out HF2.out hgrow hown2 hlie hw4 (by simp) (fun x hx => by simp [hx]) hnn hG1
          have hd4 := (hap mv w4).1
          have hm4 := (hap mv w4).2.1
          have HLay := Lib.hid (lay_is d b L false mv (fun k => X k ∨ w.heap.size ≤ k) F (put F ⟨n, s, 0⟩) bx (fun x => if x = n then b else bx x) n w4 hn hd4 hm4 (by simp) (fun x hx => by simp [hx]) (fun x => names_put x) hG1.sorted hG1.few)
          rw [HSN.out] at HLay
          have HAp := Lib.hid hap
          have HW4 := Lib.hid hw4
          clear hown' hgrow hlie hown2 hap hd4 hm4 hrow b2 hw4
          go_wp2_with fail
          rw [HW4.out]
          refine HLay.out.mono ?_
          rintro e w5 ⟨rfl, mv', hLd⟩
          have HLd := Lib.hid hLd
          clear hLd
          go_wp2_with fail
          go_ret
          refine ⟨by rw [← HEE.out, e1]; rfl, ?_⟩
          rw [← HGG.out, e2]
          exact then_chg HC.out ((HAp.out mv' w5).2.2 HLd.out)

set_option maxHeartbeats 2000000 in
/-- Append, the power off. -/
theorem Append_off (w0 : World) (X : Nat → Prop) (d : Nat) (F : List Fl) (n s : List UInt8) (l : Nat) (off : Bool) (hl : l ≤ 1000000) (h : Dk w0 X d F (l : Int) off) (hon : tickO l off = true) :
    Calls Try.prog 13 #[.pointer (some ⟨d, 0, none⟩), .string (str n), .string (str s)] w0 fun e w' => e = .returned (.int .i64 10) ∧ Then X w0 w' d F (tickL l : Nat) (tickO l off) := by
  obtain ⟨mv, bx, vl, hk⟩ := h
  have HCt := Lib.hid (count_is l hl hk)
  rw [hon] at HCt ⊢
  obtain ⟨L, hL⟩ : ∃ L, ((tickL l : Nat) : Int) = L := ⟨_, rfl⟩
  rw [hL] at HCt ⊢
  clear hk hL hon hl
  go_enter Try.func13, Try.ntmps13
  go_wp2_with fail
  refine HCt.out.mono ?_
  rintro e w ⟨rfl, hk, hc⟩
  have c2 := hk.disk.cell 2
  simp at c2
  have HK := Lib.hid hk
  have HC := Lib.hid hc
  clear hk hc HCt
  go_wp2_with fail
  go_ret
  exact ⟨rfl, then_same ⟨_, _, _, HK.out⟩ HC.out⟩
end Go.Proofs.Ytgimecgdfcckbaa.Dsk
