/- Package disk: Cut, Del, Rename. -/
import Derived.Test.YtgimecgdfcckbaaDskSync
namespace Go.Proofs.Ytgimecgdfcckbaa.Dsk
open Go.RowKit Go.Lib Go.Maps

theorem ob_same (A : Option Addr) (n c n' c' : Nat) : (Value.slice A n c).ownBlock = (Value.slice A n' c').ownBlock := by cases A <;> rfl

set_option maxRecDepth 100000 in
set_option maxHeartbeats 4000000 in
theorem Cut_is (w0 : World) (X : Nat → Prop) (d : Nat) (F : List Fl) (n : List UInt8) (k : Int) (E : Int) (G : List Fl) (hn : n.length ≤ 140737488351232) (h : Dk w0 X d F 0 false) (hE : cutE F n k = E) (hG : cutF F n k = G) :
    Calls Try.prog 46 #[.pointer (some ⟨d, 0, none⟩), .string (str n), .int .i64 k] w0 fun e w' => e = .returned (.int .i64 E) ∧ Then X w0 w' d G 0 false := by
  obtain ⟨mv, bx, vl, hk⟩ := h
  have HCt := Lib.hid (count0 hk)
  have HLk := Lib.hid (fun W (h : DkAt W X d F 0 false mv bx vl) => look_is n _ hn h rfl)
  cases hl : look F n with
  | none =>
    have HV : Hid (lookV false F bx n = .iface 27 (.int .i64 3)) := Lib.hid (by unfold lookV; rw [hl]; rfl)
    rw [HV.out] at HLk
    have hE3 : cutE F n k = 3 := by unfold cutE; rw [hl]
    have HEE := Lib.hid (hE3.symm.trans hE)
    have HGG := Lib.hid (show F = G by rw [← hG]; unfold cutF; rw [hE3]; rfl)
    have haf := as_no_file (.int .i64 3)
    have hae := as_errno (.int .i64 3)
    clear hk hl hE hG hE3
    generalize str n = sn at HLk
    go_enter Try.func46, Try.ntmps46
    go_wp2_with fail
    refine HCt.out.mono ?_
    rintro e w ⟨rfl, hk, hc⟩
    have HK := Lib.hid hk
    have HC := Lib.hid hc
    clear hk hc HCt
    go_wp2_with fail
    refine (HLk.out _ HK.out).mono ?_
    rintro e w1 ⟨rfl, rfl⟩
    clear HLk
    go_wp2_with fail
    go_ret
    refine ⟨by rw [← HEE.out]; rfl, ?_⟩
    rw [← HGG.out]
    exact then_same ⟨_, _, _, HK.out⟩ HC.out
  | some f =>
    obtain ⟨hf, rfl⟩ := look_some hl
    have HV : Hid (lookV false F bx f.n = .iface 49 (.pointer (some ⟨bx f.n, 0, none⟩))) := Lib.hid (by unfold lookV; rw [hl]; rfl)
    rw [HV.out] at HLk
    have hcE : cutE F f.n k = if 0 ≤ k ∧ k ≤ (f.t.length : Int) then 0 else 1 := by unfold cutE; rw [hl]
    have HGd0 := Lib.hid (good_cut hk.good f.n k)
    have HSt := Lib.hid hk.good.sorted
    have HF := Lib.hid hf
    have hsm := hk.good.small f hf
    have hsf := hk.good.safe f hf
    have HEE := Lib.hid (hcE.symm.trans hE)
    have HCE := Lib.hid hcE
    have HGG := Lib.hid hG
    clear hk hl hE hG hf HV hcE
    have HN : Hid (∃ b, bx f.n = b) := Lib.hid ⟨_, rfl⟩
    obtain ⟨b, hb⟩ := HN.out
    have HB := Lib.hid hb
    rw [hb] at HLk
    clear hb HN
    have haf := fun W => as_file (.pointer (some ⟨b, 0, none⟩)) W
    obtain ⟨sn, hsn⟩ : ∃ sn, str f.n = sn := ⟨_, rfl⟩
    rw [hsn] at HLk ⊢
    clear hsn
    by_cases h0 : k < 0
    · have q0 : decide (k < 0) = true := by simp; omega
      have HG0 := Lib.hid (show cutE F f.n k = 1 by rw [HCE.out, if_neg (by omega)])
      clear h0
      go_enter Try.func46, Try.ntmps46
      go_wp2_with fail
      refine HCt.out.mono ?_
      rintro e w ⟨rfl, hk, hc⟩
      have HK := Lib.hid hk
      have HC := Lib.hid hc
      clear hk hc HCt
      go_wp2_with fail
      refine (HLk.out _ HK.out).mono ?_
      rintro e w1 ⟨rfl, rfl⟩
      clear HLk
      go_wp2_with fail
      go_ret
      refine ⟨by rw [← HEE.out, ← HCE.out, HG0.out]; rfl, ?_⟩
      rw [← HGG.out]
      unfold cutF
      rw [HG0.out]
      exact then_same ⟨_, _, _, HK.out⟩ HC.out
    · have q0 : decide (k < 0) = false := by simp; omega
      by_cases h1 : (f.t.length : Int) < k
      · have q1 : decide ((f.t.length : Int) < k) = true := by simp; omega
        have HG0 := Lib.hid (show cutE F f.n k = 1 by rw [HCE.out, if_neg (by omega)])
        clear h0 h1
        go_enter Try.func46, Try.ntmps46
        go_wp2_with fail
        refine HCt.out.mono ?_
        rintro e w ⟨rfl, hk, hc⟩
        have HK := Lib.hid hk
        have HC := Lib.hid hc
        clear hk hc HCt
        go_wp2_with fail
        refine (HLk.out _ HK.out).mono ?_
        rintro e w1 ⟨rfl, rfl⟩
        clear HLk
        obtain ⟨A, c, b0⟩ := HK.out.slice HF.out
        rw [HB.out] at b0
        go_wp2_with fail
        go_ret
        refine ⟨by rw [← HEE.out, ← HCE.out, HG0.out]; rfl, ?_⟩
        rw [← HGG.out]
        unfold cutF
        rw [HG0.out]
        exact then_same ⟨_, _, _, HK.out⟩ HC.out
      · have q1 : decide ((f.t.length : Int) < k) = false := by simp; omega
        obtain ⟨K, rfl⟩ : ∃ K : Nat, k = (K : Int) := ⟨k.toNat, by omega⟩
        have hKt : K ≤ f.t.length := by omega
        have HG0 := Lib.hid (show cutE F f.n (K : Int) = 0 by rw [HCE.out, if_pos (by omega)])
        have hGe : cutF F f.n (K : Int) = edit F f.n fun g => ⟨g.n, f.t.take K, min f.s K⟩ := by
          unfold cutF
          rw [HG0.out, if_pos rfl]
          exact edit_congr fun g hg hgn => by rw [one_name HSt.out hg HF.out hgn]; simp
        have HGd := Lib.hid (hGe ▸ HGd0.out)
        have HGe := Lib.hid hGe
        clear h0 h1 hGe HGd0
        go_enter Try.func46, Try.ntmps46
        go_wp2_with fail
        refine HCt.out.mono ?_
        rintro e w ⟨rfl, hk, hc⟩
        have HK := Lib.hid hk
        have HC := Lib.hid hc
        clear hk hc HCt
        go_wp2_with fail
        refine (HLk.out _ HK.out).mono ?_
        rintro e w1 ⟨rfl, rfl⟩
        clear HLk
        obtain ⟨A, c, b0⟩ := HK.out.slice HF.out
        have hfl := HK.out.file f HF.out
        rw [HB.out] at b0 hfl
        have b1 := hfl.box.cell 1
        simp at b1
        have fz0 := hfl.box.frozen 0
        have fz1 := hfl.box.frozen 1
        have hvl : vl f.n = .slice A f.t.length c := by
          have := hfl.box.cell 0
          rw [b0] at this
          simp at this
          exact this.symm
        have hrow := hfl.row
        rw [hvl] at hrow
        have hcap := own_cap1 hrow
        have hKc : (K : Int) ≤ (c : Int) := by omega
        have hmin : min (f.s : Int) (K : Int) = ((min f.s K : Nat) : Int) := by omega
        obtain ⟨w2, hw2⟩ : ∃ w2, (w1.setCell ⟨b, 0, none⟩ (.slice A K c)).setCell ⟨b, 1, none⟩ (.int .i64 ((min f.s K : Nat) : Int)) = w2 := ⟨_, rfl⟩
        have hg : w1.grownBy w2 (some b) := by
          rw [← hw2]
          exact (grown_setCell w1 b 0 _).andThen (grown_setCell _ b 1 _) (fun j hj => .inr hj)
        have hnew : FileAt w2 X b (.slice A K c) (f.t.take K) (min f.s K) := by
          refine ⟨by rw [← hw2]; simpa using (hfl.box.put 0 (.slice A K c)).put 1 (.int .i64 ((min f.s K : Nat) : Int)), hfl.inX, own_kept0 ?_ hg (fun k hk e => by
            injection e with e
            exact hfl.row_ne hfl.box (by decide) k (by rw [hvl, ob_same A f.t.length c K c]; exact hk) e.symm), fun k hk => hfl.rowX k (by rw [hvl, ob_same A f.t.length c K c]; exact hk)⟩
          have h1 := own_take hrow hKt
          rw [cells_take]
          have h2 : (f.t.take K).length = K := by simp; omega
          rw [h2]; exact h1
        have HN2 := Lib.hid (HK.out.edit (v' := .slice A K c) HF.out (by rw [HB.out]; exact hg) (by rw [HB.out]; exact hnew) (by rw [hvl]; exact ob_same _ _ _ _ _) HGd.out)
        have HC2 := Lib.hid (HC.out.trans (Chg.of_grown (X := X) hg (fun k hk => by cases hk; exact hfl.inX)) fun _ hk => .inl hk)
        have HW2 := Lib.hid hw2
        have HHm := Lib.hid hmin
        clear hfl hnew hg hrow hvl hw2
        go_wp2_with fail
        go_ret
        refine ⟨by rw [← HEE.out, ← HCE.out, HG0.out]; rfl, ?_⟩
        rw [← HGG.out, HGe.out, HW2.out]
        exact then_same ⟨_, _, _, HN2.out⟩ HC2.out

set_option maxRecDepth 100000 in
set_option maxHeartbeats 4000000 in
theorem Del_is (w0 : World) (X : Nat → Prop) (d : Nat) (F : List Fl) (n : List UInt8) (E : Int) (G : List Fl) (hn : n.length ≤ 140737488351232) (h : Dk w0 X d F 0 false) (hE : syncE F n = E) (hG : delF F n = G) :
    Calls Try.prog 22 #[.pointer (some ⟨d, 0, none⟩), .string (str n)] w0 fun e w' => e = .returned (.int .i64 E) ∧ Then X w0 w' d G 0 false := by
  obtain ⟨mv, bx, vl, hk⟩ := h
  have HCt := Lib.hid (count0 hk)
  have HLk := Lib.hid (fun W (h : DkAt W X d F 0 false mv bx vl) => look_is n _ hn h rfl)
  cases hl : look F n with
  | none =>
    have HV : Hid (lookV false F bx n = .iface 27 (.int .i64 3)) := Lib.hid (by unfold lookV; rw [hl]; rfl)
    rw [HV.out] at HLk
    have HEE := Lib.hid (show 3 = E by rw [← hE]; unfold syncE; rw [hl])
    have HGG := Lib.hid (show F = G by
      rw [← hG]; unfold delF rm
      refine (List.filter_eq_self.2 fun g hg => ?_).symm
      simpa using look_none hl g hg)
    have haf := as_no_file (.int .i64 3)
    have hae := as_errno (.int .i64 3)
    clear hk hl hE hG
    generalize str n = sn at HLk
    go_enter Try.func22, Try.ntmps22
    go_wp2_with fail
    refine HCt.out.mono ?_
    rintro e w ⟨rfl, hk, hc⟩
    have HK := Lib.hid hk
    have HC := Lib.hid hc
    clear hk hc HCt
    go_wp2_with fail
    refine (HLk.out _ HK.out).mono ?_
    rintro e w1 ⟨rfl, rfl⟩
    clear HLk
    go_wp2_with fail
    go_ret
    refine ⟨by rw [← HEE.out]; rfl, ?_⟩
    rw [← HGG.out]
    exact then_same ⟨_, _, _, HK.out⟩ HC.out
  | some f =>
    obtain ⟨hf, rfl⟩ := look_some hl
    have HV : Hid (lookV false F bx f.n = .iface 49 (.pointer (some ⟨bx f.n, 0, none⟩))) := Lib.hid (by unfold lookV; rw [hl]; rfl)
    rw [HV.out] at HLk
    have HEE := Lib.hid (show 0 = E by rw [← hE]; unfold syncE; rw [hl])
    have HGG := Lib.hid hG
    have HF := Lib.hid hf
    have HKy := Lib.hid (key_str (x := f.n) (by unfold maxLen; omega))
    clear hk hl hE hG hf HV
    have HN : Hid (∃ b, bx f.n = b) := Lib.hid ⟨_, rfl⟩
    obtain ⟨b, hb⟩ := HN.out
    rw [hb] at HLk
    clear hb HN
    have haf := fun W => as_file (.pointer (some ⟨b, 0, none⟩)) W
    go_enter Try.func22, Try.ntmps22
    go_wp2_with fail
    refine HCt.out.mono ?_
    rintro e w ⟨rfl, hk, hc⟩
    have HK := Lib.hid hk
    have HC := Lib.hid hc
    clear hk hc HCt
    go_wp2_with fail
    refine (HLk.out _ HK.out).mono ?_
    rintro e w1 ⟨rfl, rfl⟩
    clear HLk
    have hmap := HK.out.map
    rcases hmap with ⟨e, e2⟩ | ⟨m, D, e, hxm, hi⟩
    · have := HF.out
      rw [e2] at this
      cases this
    · subst e
      have c0 := HK.out.disk.cell 0
      simp at c0
      have hown := hi.own
      have HI := Lib.hid hi
      have HXm := Lib.hid hxm
      clear hi hxm
      go_wp2_with (at_delete; refine wpList_delete_own _ rfl _ _ 46 9 rfl 49 keyed Try.underlying46 ptrR m 64 D rfl hown _ _ rfl HKy.out ?_; intro w2 hown2 hturn2)
      have hg := hturn2.grown
      have HD := Lib.hid (HK.out.del HI.out f.n hown2 hg)
      have HC2 := Lib.hid (HC.out.trans (Chg.of_grown (X := X) hg (fun k hk => by cases hk; exact HXm.out)) fun _ hk => .inl hk)
      clear hg hown2 hturn2 hown
      go_wp2_with fail
      go_ret
      refine ⟨by rw [← HEE.out]; rfl, ?_⟩
      rw [← HGG.out]
      exact then_same ⟨_, _, _, HD.out⟩ HC2.out
end Go.Proofs.Ytgimecgdfcckbaa.Dsk
