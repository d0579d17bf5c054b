/- Package disk: Rename. -/
import Derived.Test.YtgimecgdfcckbaaDskCut
namespace Go.Proofs.Ytgimecgdfcckbaa.Dsk
open Go.RowKit Go.Lib Go.Maps

/-- What lay leaves is a disk, and nothing else has turned. -/
theorem then_laid {w w4 w5 : World} {X : Nat → Prop} {F0 F : List Fl} {bx bx0 bx' : List UInt8 → Nat} {vl : List UInt8 → Value} {b d : Nat} {v mv mv' : Value} {n t : List UInt8} {s : Nat} {l : Int} {off : Bool}
    (hc : Chg X w w4) (ho : Orph w4 (fun k => X k ∨ w.heap.size ≤ k) F bx vl b v t s) (hd : Bk w4 d 48 #[mv, .int .i64 l, .bool off]) (hX : X d) (hm : MapAt w4 (fun k => X k ∨ w.heap.size ≤ k) mv F0 bx0)
    (hL : Laid w4 w5 d l off mv mv' bx' (put F ⟨n, t, s⟩)) (hb : bx' n = b) (hbx : ∀ x, x ≠ n → bx' x = bx x) (hn : ∀ f ∈ F, f.n ≠ n) (hg : GoodF (put F ⟨n, t, s⟩)) : Then X w w5 d (put F ⟨n, t, s⟩) l off := by
  have h0 := hc.size
  have hfin := dk_laid (w0 := w) (vl := vl) (vl' := fun x => if x = n then v else vl x) ho hd hX hm hL hb hbx (by simp) (fun x hx => by simp [hx]) hn hg h0
  refine ⟨_, ⟨mv', bx', _, hfin⟩, ?_, fun k hk => hk.1⟩
  refine ⟨hL.os.trans hc.os, hL.tape.trans hc.tape, hL.output.trans hc.output, Nat.le_trans h0 hL.size, fun k hkl hkX => ?_⟩
  have hnd : k ≠ d := fun e => hkX (by rw [e]; exact hX)
  have hnm : mv ≠ .map (some k) := fun e => by
    rcases hm with ⟨e2, _⟩ | ⟨m, D, e2, hxm, _⟩
    · rw [e2] at e; cases e
    · rw [e2] at e
      injection e with e
      injection e with e
      rcases hxm with h | h
      · exact hkX (by rw [← e]; exact h)
      · omega
  exact (hL.block k (by omega) hnd hnm).trans (hc.block k hkl hkX)

theorem renE_of {F : List Fl} {f : Fl} (hl : look F f.n = some f) (b : List UInt8) : renE F f.n b = if nameB b = true then (if f.s < f.t.length then 6 else 0) else 1 := by
  unfold renE
  rw [hl]
theorem renF_no {F : List Fl} {a b : List UInt8} (h : renE F a b ≠ 0) : renF F a b = F := by
  unfold renF
  rw [if_neg h]
theorem renF_yes {F : List Fl} {f : Fl} (hl : look F f.n = some f) {b : List UInt8} (h : renE F f.n b = 0) : renF F f.n b = put (rm (rm F f.n) b) ⟨b, f.t, f.s⟩ := by
  unfold renF
  rw [if_pos h, hl]

set_option maxRecDepth 100000 in
set_option maxHeartbeats 4000000 in
theorem Rename_is (w0 : World) (X : Nat → Prop) (d : Nat) (F : List Fl) (a z : List UInt8) (E : Int) (G : List Fl) (ha : a.length ≤ 140737488351232) (hz : z.length ≤ 140737488351232) (h : Dk w0 X d F 0 false) (hE : renE F a z = E) (hG : renF F a z = G) :
    Calls Try.prog 15 #[.pointer (some ⟨d, 0, none⟩), .string (str a), .string (str z)] w0 fun e w' => e = .returned (.int .i64 E) ∧ Then X w0 w' d G 0 false := by
  obtain ⟨mv, bx, vl, hk⟩ := h
  have HCt := Lib.hid (count0 hk)
  have HLk := Lib.hid (fun W (h : DkAt W X d F 0 false mv bx vl) => look_is a _ ha h rfl)
  cases hl : look F a with
  | none =>
    have HV : Hid (lookV false F bx a = .iface 27 (.int .i64 3)) := Lib.hid (by unfold lookV; rw [hl]; rfl)
    rw [HV.out] at HLk
    have hE3 : renE F a z = 3 := by unfold renE; rw [hl]
    have HEE := Lib.hid (hE3.symm.trans hE)
    have HGG := Lib.hid (show F = G by rw [← hG]; exact (renF_no (by rw [hE3]; decide)).symm)
    have haf := as_no_file (.int .i64 3)
    have hae := as_errno (.int .i64 3)
    clear hk hl hE hG hE3
    generalize str a = sn at HLk
    go_enter Try.func15, Try.ntmps15
    go_wp2_with fail
    refine HCt.out.mono ?_
    rintro e w ⟨rfl, hk, hc⟩
    have HK := Lib.hid hk
    have HC := Lib.hid hc
    clear hk hc HCt
    go_wp2_with fail
    refine (HLk.out _ HK.out).mono ?_
    rintro e w1 ⟨rfl, rfl⟩
    clear HLk
    go_wp2_with fail
    go_ret
    refine ⟨by rw [← HEE.out]; rfl, ?_⟩
    rw [← HGG.out]
    exact then_same ⟨_, _, _, HK.out⟩ HC.out
  | some f =>
    obtain ⟨hf, rfl⟩ := look_some hl
    have HV : Hid (lookV false F bx f.n = .iface 49 (.pointer (some ⟨bx f.n, 0, none⟩))) := Lib.hid (by unfold lookV; rw [hl]; rfl)
    rw [HV.out] at HLk
    have HRE := Lib.hid (renE_of hl z)
    have HRY := Lib.hid (fun h => renF_yes (b := z) hl h)
    have HGd := Lib.hid (good_ren hk.good f.n z)
    have HN := Lib.hid (fun W => isName_is z (nameB z) W rfl)
    have HF := Lib.hid hf
    have HEE := Lib.hid hE
    have HGG := Lib.hid hG
    have HKy := Lib.hid (key_str (x := f.n) (by unfold maxLen; omega))
    have hsm := hk.good.small f hf
    have hsf := hk.good.safe f hf
    clear hk hl hE hG hf HV
    have HX : Hid (∃ b, bx f.n = b) := Lib.hid ⟨_, rfl⟩
    obtain ⟨b, hb⟩ := HX.out
    have HB := Lib.hid hb
    rw [hb] at HLk
    clear hb HX
    have haf := fun W => as_file (.pointer (some ⟨b, 0, none⟩)) W
    obtain ⟨sa, hsa⟩ : ∃ sa, str f.n = sa := ⟨_, rfl⟩
    obtain ⟨sz, hsz⟩ : ∃ sz, str z = sz := ⟨_, rfl⟩
    have HSZ := Lib.hid hsz
    rw [hsa] at HLk HKy ⊢
    rw [hsz] at HN ⊢
    clear hsa hsz
    cases hnb : nameB z with
    | false =>
      have HR := Lib.hid (show renE F f.n z = 1 by rw [HRE.out, hnb]; rfl)
      rw [hnb] at HN
      clear hnb
      go_enter Try.func15, Try.ntmps15
      go_wp2_with fail
      refine HCt.out.mono ?_
      rintro e w ⟨rfl, hk, hc⟩
      have HK := Lib.hid hk
      have HC := Lib.hid hc
      clear hk hc HCt
      go_wp2_with fail
      refine (HLk.out _ HK.out).mono ?_
      rintro e w1 ⟨rfl, rfl⟩
      clear HLk
      go_wp2_with fail
      refine (HN.out _).mono ?_
      rintro e w2 ⟨rfl, hb2⟩
      have HB2 := Lib.hid hb2
      clear hb2
      go_wp2_with fail
      go_ret
      refine ⟨by rw [← HEE.out, HR.out]; rfl, ?_⟩
      rw [← HGG.out, renF_no (by rw [HR.out]; decide)]
      exact then_same ⟨_, _, _, HK.out.below HB2.out⟩ (HC.out.trans (Chg.of_below HB2.out) fun _ hk => .inl hk)
    | true =>
      rw [hnb] at HN
      by_cases hst : f.s < f.t.length
      · have HR := Lib.hid (show renE F f.n z = 6 by rw [HRE.out, hnb, if_pos rfl, if_pos hst])
        have hq : decide ((f.s : Int) < (f.t.length : Int)) = true := by simp; omega
        have hq2 : decide (f.s < f.t.length) = true := by simp; omega
        clear hnb hst
        go_enter Try.func15, Try.ntmps15
        go_wp2_with fail
        refine HCt.out.mono ?_
        rintro e w ⟨rfl, hk, hc⟩
        have HK := Lib.hid hk
        have HC := Lib.hid hc
        clear hk hc HCt
        go_wp2_with fail
        refine (HLk.out _ HK.out).mono ?_
        rintro e w1 ⟨rfl, rfl⟩
        clear HLk
        go_wp2_with fail
        refine (HN.out _).mono ?_
        rintro e w2 ⟨rfl, hb2⟩
        have HK2 := Lib.hid (HK.out.below hb2)
        have HC2 := Lib.hid (HC.out.trans (Chg.of_below (X := X) hb2) fun _ hk => .inl hk)
        clear hb2 HK
        obtain ⟨A, c, b0⟩ := HK2.out.slice HF.out
        have b1 := (HK2.out.file f HF.out).box.cell 1
        rw [HB.out] at b0 b1
        simp at b1
        go_wp2_with fail
        go_quiet (fail)
        go_wp2_with fail
        go_ret
        refine ⟨by rw [← HEE.out, HR.out]; rfl, ?_⟩
        rw [← HGG.out, renF_no (by rw [HR.out]; decide)]
        exact then_same ⟨_, _, _, HK2.out.below (below_drewN (Below.refl _ _) _)⟩ (HC2.out.trans (Chg.of_below (below_drewN (Below.refl _ _) _)) fun _ hk => .inl hk)
      · have HR := Lib.hid (show renE F f.n z = 0 by rw [HRE.out, hnb, if_pos rfl, if_neg hst])
        have hq : decide ((f.s : Int) < (f.t.length : Int)) = false := by simp; omega
        have hq2 : decide (f.s < f.t.length) = false := by simp; omega
        clear hnb hst
        go_enter Try.func15, Try.ntmps15
        go_wp2_with fail
        refine HCt.out.mono ?_
        rintro e w ⟨rfl, hk, hc⟩
        have HK := Lib.hid hk
        have HC := Lib.hid hc
        clear hk hc HCt
        go_wp2_with fail
        refine (HLk.out _ HK.out).mono ?_
        rintro e w1 ⟨rfl, rfl⟩
        clear HLk
        go_wp2_with fail
        refine (HN.out _).mono ?_
        rintro e w2 ⟨rfl, hb2⟩
        have HK2 := Lib.hid (HK.out.below hb2)
        have HC2 := Lib.hid (HC.out.trans (Chg.of_below (X := X) hb2) fun _ hk => .inl hk)
        clear hb2 HK
        obtain ⟨A, c, b0⟩ := HK2.out.slice HF.out
        have b1 := (HK2.out.file f HF.out).box.cell 1
        rw [HB.out] at b0 b1
        simp at b1
        rcases HK2.out.map with ⟨e, e2⟩ | ⟨m, D, e, hxm, hi⟩
        · have := HF.out
          rw [e2] at this
          cases this
        · subst e
          have c0 := HK2.out.disk.cell 0
          simp at c0
          have HI := Lib.hid hi
          have HXm := Lib.hid hxm
          clear hi hxm
          go_wp2_with fail
          go_quiet (fail)
          rename_i nq
          have hK3 := HK2.out.below (below_drewN (Below.refl _ _) nq)
          have hI3 : MapIn (w2.drewN nq) m F bx D := HI.out.grown (grown_of_below (below_drewN (Below.refl _ _) nq)) (by simp)
          have hC3 := HC2.out.trans (Chg.of_below (X := X) (below_drewN (Below.refl _ w2) nq)) fun _ hk => .inl hk
          have hown := hI3.own
          have HI3 := Lib.hid hI3
          have HK3 := Lib.hid hK3
          have HC3 := Lib.hid hC3
          clear hI3 hK3 hC3 HI HK2 HC2
          go_wp2_with (at_delete; refine wpList_delete_own _ rfl _ _ 46 9 rfl 49 keyed Try.underlying46 ptrR m 64 D rfl hown _ _ rfl HKy.out ?_; intro w4 hown2 hturn2)
          have hg := hturn2.grown
          have hD4 := HK3.out.del HI3.out f.n hown2 hg
          have hfl : FileAt w4 X b (vl f.n) f.t f.s := by
            have hfl := HK3.out.file f HF.out
            rw [HB.out] at hfl
            refine hfl.grown hg (fun e => by injection e with e; exact map_ne hfl.box HI3.out.own e) (fun k hk e => ?_)
            obtain ⟨cs, hb⟩ := row_block hfl.row hk
            injection e with e
            exact map_ne hb HI3.out.own e.symm
          have hC4 := HC3.out.trans (Chg.of_grown (X := X) hg (fun k hk => by cases hk; exact HXm.out)) fun _ hk => .inl hk
          have horph : Orph w4 (fun k => X k ∨ w0.heap.size ≤ k) (rm (rm F f.n) z) bx vl b (vl f.n) f.t f.s := by
            refine Orph.mono (X := X) ⟨fun g hgm => hD4.file g (mem_rm.1 hgm).1, fun g hgm k hkm => hD4.apart g (mem_rm.1 hgm).1 k (mem_rm.1 hkm).1, hfl, fun g hgm => ?_⟩ fun k hk => .inl hk
            have hg1 := mem_rm.1 (mem_rm.1 hgm).1
            have := HK3.out.apart g hg1.1 f HF.out hg1.2
            rw [HB.out] at this
            exact this
          have hGe := HRY.out HR.out
          have hG1 : GoodF (put (rm (rm F f.n) z) ⟨z, f.t, f.s⟩) := by rw [← hGe]; exact HGd.out
          have hm4 : MapAt w4 (fun k => X k ∨ w0.heap.size ≤ k) (.map (some m)) (rm F f.n) bx := hD4.map.mono fun k hk => .inl hk
          have HLay := Lib.hid (lay_is d b 0 false (.map (some m)) (fun k => X k ∨ w0.heap.size ≤ k) (rm F f.n) (put (rm (rm F f.n) z) ⟨z, f.t, f.s⟩) bx (fun x => if x = z then b else bx x) z w4 hz hD4.disk hm4 (by simp) (fun x hx => by simp [hx]) (fun x => by
            rw [names_put, names_rm]
            by_cases hx : x = z
            · simp [hx]
            · simp [hx]) hG1.sorted hG1.few)
          rw [HSZ.out] at HLay
          have HEnd := Lib.hid (fun mv' w5 (hL : Laid w4 w5 d 0 false (.map (some m)) mv' (fun x => if x = z then b else bx x) (put (rm (rm F f.n) z) ⟨z, f.t, f.s⟩)) => then_laid hC4 horph hD4.disk hD4.inX hm4 hL (by simp) (fun x hx => by simp [hx]) (fun g hgm => (mem_rm.1 hgm).2) hG1)
          have HGe := Lib.hid hGe
          clear hg hD4 hfl hC4 horph hGe hG1 hm4 hown2 hturn2 hown HI3 HK3 HC3 b0 b1 c0
          go_wp2_with fail
          refine HLay.out.mono ?_
          rintro e w5 ⟨rfl, mv', hLd⟩
          have HLd := Lib.hid hLd
          clear hLd
          go_wp2_with fail
          go_ret
          refine ⟨by rw [← HEE.out, HR.out]; rfl, ?_⟩
          rw [← HGG.out, HGe.out]
          exact HEnd.out mv' w5 HLd.out
end Go.Proofs.Ytgimecgdfcckbaa.Dsk
