/- Package disk: Sync, Cut, Del. -/
import Derived.Test.YtgimecgdfcckbaaDskAppendIs
namespace Go.Proofs.Ytgimecgdfcckbaa.Dsk
open Go.RowKit Go.Lib Go.Maps

section
variable {w w' : World} {X : Nat → Prop} {d b m : Nat} {F : List Fl} {l : Int} {off : Bool} {mv v' : Value} {bx : List UInt8 → Nat} {vl : List UInt8 → Value} {t' : List UInt8} {s' : Nat} {D : DW}
/-- One file's box written over, its row's block being the same. -/
theorem DkAt.edit (h : DkAt w X d F l off mv bx vl) {f : Fl} (hf : f ∈ F) (hg : w.grownBy w' (some (bx f.n))) (hnew : FileAt w' X (bx f.n) v' t' s') (hv : v'.ownBlock = (vl f.n).ownBlock) (hG : GoodF (edit F f.n fun g => ⟨g.n, t', s'⟩)) :
    DkAt w' X d (edit F f.n fun g => ⟨g.n, t', s'⟩) l off mv bx (fun x => if x = f.n then v' else vl x) := by
  have hfb := (h.file f hf).box
  have hall : ∀ g ∈ Dsk.edit F f.n (fun g => ⟨g.n, t', s'⟩), (g.n = f.n ∧ g.t = t' ∧ g.s = s') ∨ (g.n ≠ f.n ∧ g ∈ F) := fun g hg => by
    obtain ⟨g0, h1, h2⟩ := mem_edit.1 hg
    by_cases hn : g0.n = f.n
    · rw [if_pos hn] at h2; subst h2; exact .inl ⟨hn, rfl, rfl⟩
    · rw [if_neg hn] at h2; subst h2; exact .inr ⟨hn, h1⟩
  refine ⟨hG, h.disk.grown hg (fun e => by injection e with e; exact hfb.ne h.disk (by decide) e.symm), h.inX, ?_, fun g hgm => ?_, fun g hgm k hkm hne => ?_, fun k hk => Nat.lt_of_lt_of_le (h.lt k hk) hg.size⟩
  · have hm := h.map.grown hg (fun m e => h.map.ne hfb m e)
    rcases hm with ⟨e, e2⟩ | ⟨m, D, e, hxm, hi⟩
    · subst e2; cases hf
    · refine .inr ⟨m, D, e, hxm, hi.own, fun x => ?_, fun g hgm z => ?_⟩
      · rw [hi.has x]
        constructor
        · rintro ⟨g, hg, rfl⟩
          by_cases hn : g.n = f.n
          · exact ⟨_, mem_edit.2 ⟨g, hg, rfl⟩, by rw [if_pos hn]⟩
          · exact ⟨_, mem_edit.2 ⟨g, hg, rfl⟩, by rw [if_neg hn]⟩
        · rintro ⟨g, hg, rfl⟩
          rcases hall g hg with ⟨e1, _⟩ | ⟨_, hg⟩
          · exact ⟨f, hf, e1.symm⟩
          · exact ⟨g, hg, rfl⟩
      · rcases hall g hgm with ⟨e1, _⟩ | ⟨_, hg⟩
        · rw [e1]; exact hi.at_ f hf z
        · exact hi.at_ g hg z
  · rcases hall g hgm with ⟨e1, e2, e3⟩ | ⟨hn, hg2⟩
    · rw [e1, e2, e3]
      simpa using hnew
    · have hfl := h.file g hg2
      have ha := h.apart g hg2 f hf hn
      simp only [if_neg hn]
      exact hfl.grown hg (fun e => by injection e with e; exact ha.1 e) (fun k hk e => by injection e with e; exact hfl.row_ne hfb (by decide) k hk e.symm)
  · rcases hall g hgm with ⟨e1, _⟩ | ⟨hn, hg2⟩
    · rcases hall k hkm with ⟨e2, _⟩ | ⟨hn2, hk2⟩
      · exact absurd (e1.trans e2.symm) hne
      · have ha := h.apart f hf k hk2 (fun e => hn2 e.symm)
        rw [e1]
        simp only [if_true, if_neg hn2]
        rw [hv]
        exact ha
    · rcases hall k hkm with ⟨e2, _⟩ | ⟨hn2, hk2⟩
      · have ha := h.apart g hg2 f hf hn
        rw [e2]
        simp only [if_true, if_neg hn]
        rw [hv]
        exact ha
      · simp only [if_neg hn, if_neg hn2]
        exact h.apart g hg2 k hk2 hne
/-- One file taken out of the map. -/
theorem DkAt.del (h : DkAt w X d F l off (.map (some m)) bx vl) (hi : MapIn w m F bx D) (n : List UInt8) (ho : w'.ownsMap Try.prog 9 ptrR m 64 (D.del (.string n))) (hg : w.grownBy w' (some m)) :
    DkAt w' X d (rm F n) l off (.map (some m)) bx vl := by
  have hne : ∀ {g : Nat} {T : TypeId} {cs : Array Value}, Bk w g T cs → some g ≠ some m := fun hb e => by injection e with e; exact map_ne hb hi.own e
  have hXm : X m := by
    rcases h.map with ⟨e, _⟩ | ⟨m', _, e, hx, _⟩
    · cases e
    · injection e with e; injection e with e; rw [e]; exact hx
  refine ⟨good_rm h.good, h.disk.grown hg (hne h.disk), h.inX, .inr ⟨m, _, rfl, hXm, ho, fun x => ?_, fun g hgm z => ?_⟩, fun g hgm => ?_, fun g hgm k hkm => h.apart g (mem_rm.1 hgm).1 k (mem_rm.1 hkm).1, fun k hk => Nat.lt_of_lt_of_le (h.lt k hk) hg.size⟩
  · rw [names_rm]
    by_cases hx : x = n
    · subst hx
      rw [has_del_same]; simp
    · rw [has_del_other (fun e => hx (by injection e)), hi.has x]
      simp [hx]
  · rw [atKey_del_other (fun e => (mem_rm.1 hgm).2 (by injection e))]
    exact hi.at_ g (mem_rm.1 hgm).1 z
  · have hfl := h.file g (mem_rm.1 hgm).1
    exact hfl.grown hg (hne hfl.box) (fun k hk e => by
      obtain ⟨cs, hb⟩ := row_block hfl.row hk
      exact hne hb e.symm)
theorem own_take {base e n c k : Nat} {A : Option Addr} {xs : List Value} (h : w.ownsRow base e 1 (.slice A n c) n xs) (hk : k ≤ n) : w.ownsRow base e 1 (.slice A k c) k (xs.take k) := by
  have hl : xs.length = n := by simpa using h.1
  refine ⟨by simp; omega, ?_⟩
  rcases h.2 with ⟨e1, h0⟩ | ⟨g, cap, cur, e1, hb, hg, hle, hcm, hsz, htk⟩
  · injection e1 with e1 _ e2
    subst e1 e2
    obtain rfl : k = 0 := by omega
    exact .inl ⟨rfl, rfl⟩
  · injection e1 with e1 _ e2
    subst e1 e2
    refine .inr ⟨g, c, cur, rfl, hb, hg, by omega, hcm, hsz, ?_⟩
    rw [← htk, List.take_take]
    congr 1
    omega
theorem cells_take (t : List UInt8) (k : Nat) : strCells (str (t.take k)) = (strCells (str t)).take k := by
  unfold strCells
  rw [str_data, str_data, List.map_take]
end

theorem count0 {w : World} {X : Nat → Prop} {d : Nat} {F : List Fl} {mv : Value} {bx : List UInt8 → Nat} {vl : List UInt8 → Value} (h : DkAt w X d F 0 false mv bx vl) :
    Calls Try.prog 25 #[.pointer (some ⟨d, 0, none⟩)] w fun e w' => e = .returned (.tuple #[]) ∧ DkAt w' X d F 0 false mv bx vl ∧ Chg X w w' :=
  count_is 0 (by omega) h

set_option maxRecDepth 100000 in
set_option maxHeartbeats 4000000 in
theorem Sync_is (w0 : World) (X : Nat → Prop) (d : Nat) (F : List Fl) (n : List UInt8) (E : Int) (G : List Fl) (hn : n.length ≤ 140737488351232) (h : Dk w0 X d F 0 false) (hE : syncE F n = E) (hG : syncF F n = G) :
    Calls Try.prog 14 #[.pointer (some ⟨d, 0, none⟩), .string (str n)] w0 fun e w' => e = .returned (.int .i64 E) ∧ Then X w0 w' d G 0 false := by
  obtain ⟨mv, bx, vl, hk⟩ := h
  have HCt := Lib.hid (count0 hk)
  have HLk := Lib.hid (fun W (h : DkAt W X d F 0 false mv bx vl) => look_is n _ hn h rfl)
  cases hl : look F n with
  | none =>
    have HV : Hid (lookV false F bx n = .iface 27 (.int .i64 3)) := Lib.hid (by unfold lookV; rw [hl]; rfl)
    rw [HV.out] at HLk
    have HEE := Lib.hid (show 3 = E by rw [← hE]; unfold syncE; rw [hl])
    have HGG := Lib.hid (show F = G by rw [← hG]; unfold syncF; rw [edit_out (look_none hl)])
    have haf := as_no_file (.int .i64 3)
    have hae := as_errno (.int .i64 3)
    clear hk hl hE hG
    generalize str n = sn at HLk
    go_enter Try.func14, Try.ntmps14
    go_wp2_with fail
    refine HCt.out.mono ?_
    rintro e w ⟨rfl, hk, hc⟩
    have HK := Lib.hid hk
    have HC := Lib.hid hc
    clear hk hc HCt
    go_wp2_with fail
    refine (HLk.out _ HK.out).mono ?_
    rintro e w1 ⟨rfl, rfl⟩
    clear HLk
    go_wp2_with fail
    go_ret
    refine ⟨by rw [← HEE.out]; rfl, ?_⟩
    rw [← HGG.out]
    exact then_same ⟨_, _, _, HK.out⟩ HC.out
  | some f =>
    obtain ⟨hf, rfl⟩ := look_some hl
    have HV : Hid (lookV false F bx f.n = .iface 49 (.pointer (some ⟨bx f.n, 0, none⟩))) := Lib.hid (by unfold lookV; rw [hl]; rfl)
    rw [HV.out] at HLk
    have HEE := Lib.hid (show 0 = E by rw [← hE]; unfold syncE; rw [hl])
    have hGe : syncF F f.n = edit F f.n fun g => ⟨g.n, f.t, f.t.length⟩ := edit_congr fun g hg hgn => by rw [one_name hk.good.sorted hg hf hgn]
    have HGG := Lib.hid (hGe.symm.trans hG)
    have HGd := Lib.hid (show GoodF (edit F f.n fun g => ⟨g.n, f.t, f.t.length⟩) by rw [← hGe]; exact good_sync hk.good f.n)
    have HF := Lib.hid hf
    clear hk hl hE hG hGe hf HV
    have HN : Hid (∃ b, bx f.n = b) := Lib.hid ⟨_, rfl⟩
    obtain ⟨b, hb⟩ := HN.out
    have HB := Lib.hid hb
    rw [hb] at HLk
    clear hb HN
    have haf := fun W => as_file (.pointer (some ⟨b, 0, none⟩)) W
    generalize str f.n = sn at HLk
    go_enter Try.func14, Try.ntmps14
    go_wp2_with fail
    refine HCt.out.mono ?_
    rintro e w ⟨rfl, hk, hc⟩
    have HK := Lib.hid hk
    have HC := Lib.hid hc
    clear hk hc HCt
    go_wp2_with fail
    refine (HLk.out _ HK.out).mono ?_
    rintro e w1 ⟨rfl, rfl⟩
    clear HLk
    obtain ⟨A, c, b0⟩ := HK.out.slice HF.out
    have hfl := HK.out.file f HF.out
    rw [HB.out] at b0 hfl
    have b1 := hfl.box.cell 1
    simp at b1
    have fz := hfl.box.frozen 1
    have hnew : FileAt (w1.setCell ⟨b, 1, none⟩ (.int .i64 (f.t.length : Int))) X b (vl f.n) f.t f.t.length := by
      refine ⟨by simpa using hfl.box.put 1 (.int .i64 (f.t.length : Int)), hfl.inX, own_kept0 hfl.row (grown_setCell w1 b 1 _) (fun k hk e => by injection e with e; exact hfl.row_ne hfl.box (by decide) k hk e.symm), hfl.rowX⟩
    have hg := grown_setCell w1 b 1 (.int .i64 (f.t.length : Int))
    have HN2 := Lib.hid (HK.out.edit (v' := vl f.n) HF.out (by rw [HB.out]; exact hg) (by rw [HB.out]; exact hnew) rfl HGd.out)
    have HC2 := Lib.hid (HC.out.trans (Chg.of_grown (X := X) hg (fun k hk => by cases hk; exact hfl.inX)) fun _ hk => .inl hk)
    clear hfl hnew hg
    go_wp2_with fail
    go_ret
    refine ⟨by rw [← HEE.out]; rfl, ?_⟩
    rw [← HGG.out]
    exact then_same ⟨_, _, _, HN2.out⟩ HC2.out
end Go.Proofs.Ytgimecgdfcckbaa.Dsk
