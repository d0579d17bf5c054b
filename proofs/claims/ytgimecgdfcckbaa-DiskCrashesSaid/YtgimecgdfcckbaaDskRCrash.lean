/- The document's own answer: what a crash leaves. -/
import Derived.Test.YtgimecgdfcckbaaDskRApp
import Derived.Maps.AppendAt
namespace Go.Proofs.Ytgimecgdfcckbaa.Dsk
open Go.RowKit Go.Lib Go.Maps

section
variable {w : World} {Y : Nat → Prop} {r : Nat} {F : List Fl} {A : Option Addr} {c : Nat}
theorem strs_one (x : ByteArray) : ∀ u ∈ [Value.string x], u.oneCell' = true := fun u hu => by
  rw [List.mem_singleton] at hu
  subst hu
  rfl
theorem w64 (s : Nat) (h : s ≤ 65536) : wrap64 (s : Int) = s := by unfold wrap64; omega
def GivesRCrash (Y : Nat → Prop) (F : List Fl) (ps : List Int) (w : World) (e : Ending) (w' : World) : Prop :=
  ∃ A c B c', e = .returned (.tuple #[.slice A F.length c, .slice B F.length c']) ∧ w'.ownsRow w.heap.size 9 1 (.slice A F.length c) F.length (strs (names F)) ∧
    w'.ownsRow w.heap.size 9 1 (.slice B F.length c') F.length (strs (crashT F ps)) ∧ Chg Y w w'
structure RCInv (V : World) (F : List Fl) (ps : List Int) (v1 v2 : Value) (k : Nat) (wr : World) : Prop where
  o1 : wr.ownsRow V.heap.size 9 1 v1 k (strs ((names F).take k))
  o2 : wr.ownsRow V.heap.size 9 1 v2 k (strs ((crashT F ps).take k))
  dis : ∀ j, v2.ownBlock = some j → v1.ownBlock ≠ some j
  bel : Below V.heap.size V wr
set_option maxRecDepth 100000 in
set_option maxHeartbeats 8000000 in
theorem RCrash_is (P : Option Addr) (cp : Nat) (ps : List Int) (hl : F.length ≤ 1000) (ht : ∀ f ∈ F, f.t.length ≤ 65536) (hsf : ∀ f ∈ F, f.s ≤ f.t.length) (h : RkAt w Y r F A c) (hps : Nums w w.heap.size .i64 P ps) (hpl : ps.length ≤ 1000000) :
    Calls Try.prog 52 #[.pointer (some ⟨r, 0, none⟩), .slice P ps.length cp] w fun e w' => GivesRCrash Y F ps w e w' := by
  obtain ⟨i0, hi, hz0, hz1, hz2⟩ := info_parts info_string
  have H := Lib.hid h
  have HP := Lib.hid hps
  have HTt := Lib.hid ht
  have HSf := Lib.hid hsf
  have HCr := Lib.hid (crash_len F ps)
  have c0 : w.cell? ⟨r, 0, none⟩ = some (.slice A F.length c) := h.box.cell 0
  clear h hps ht hsf
  go_enter Try.func52, Try.ntmps52
  go_wp2_with fail
  obtain ⟨V, hV⟩ : ∃ V, V = w := ⟨_, rfl⟩
  subst hV
  go_loopw [6, 7, 8] (fun v1 v2 i wr => ∃ (a b : Value) (k : Nat), k ≤ F.length ∧ a = v1 ∧ b = v2 ∧ i = .int .i64 (k : Int) ∧ RCInv V F ps a b k wr) (fun _ _ i _ => F.length - (RowKit.intOf i).toNat)
  case atStart => exact ⟨.slice none 0 0, .slice none 0 0, 0, Nat.zero_le _, rfl, rfl, rfl, World.ownsRow_nil _ _ _ _, World.ownsRow_nil _ _ _ _, fun j hj => by simp [Value.ownBlock] at hj, Below.refl _ _⟩
  case round =>
    obtain ⟨v1, v2, k, hk, rfl, rfl, rfl, hown1, hown2, hdis, hb⟩ := hrel
    have HB := Lib.hid hb
    have HD := Lib.hid hdis
    have HO1 := Lib.hid hown1
    have HO2 := Lib.hid hown2
    have HR := Lib.hid (H.out.below hb)
    have hBr : V.heap.size ≤ wr.heap.size := hb.size
    have c1 : wr.cell? ⟨r, 0, none⟩ = some (.slice A F.length c) := HR.out.box.cell 0
    clear hb hdis hown1 hown2 c0
    by_cases hlt : k < F.length
    · have hkI : (k : Int) < (F.length : Int) := by omega
      obtain ⟨g, rfl, _, _, _, _⟩ := H.out.addr (by omega)
      obtain ⟨d0, d1, d2⟩ := HR.out.at_ hlt
      have htl := HTt.out _ (List.getElem_mem hlt)
      have hsl := HSf.out _ (List.getElem_mem hlt)
      have HT1 : Hid ((names F).take k ++ [F[k].n] = (names F).take (k + 1)) := Lib.hid (by
        rw [List.take_add_one, List.getElem?_eq_getElem (by rw [names_len]; exact hlt)]
        simp [names])
      have HT2 := Lib.hid (crash_take F ps k hlt)
      have HSz : Hid ((str F[k].t).size = F[k].t.length) := Lib.hid (str_size _)
      have HFk : Hid (∃ f, F[k] = f) := Lib.hid ⟨_, rfl⟩
      generalize F[k] = f at *
      have HPk : Hid (∀ h : k < ps.length, ∃ a, P = some a ∧ wr.cell? (a.add k) = some (.int .i64 (ps.getD k 0))) := Lib.hid fun h => by
        obtain ⟨a, e1, e2, e3⟩ := HP.out.some_ (by omega)
        exact ⟨a, e1, (HB.out.cell (p := a.add k) (by rw [add_block]; omega)).trans (e3 k h)⟩
      obtain ⟨W0, hW0⟩ : ∃ W0, wr.alloc (.cells #[.string (str f.n), .string (str f.t), .int .i64 (f.s : Int)] 89) = W0 := ⟨_, rfl⟩
      have HBx : Hid (Bk W0 wr.heap.size 89 #[.string (str f.n), .string (str f.t), .int .i64 (f.s : Int)]) := Lib.hid (by rw [← hW0]; exact Bk.new wr _ _)
      have HB0 : Hid (Below V.heap.size V W0) := Lib.hid (by rw [← hW0]; exact HB.out.alloc hBr _)
      have HZ0 : Hid (W0.heap.size = wr.heap.size + 1) := Lib.hid (by rw [← hW0]; simp)
      have HO1' : Hid (W0.ownsRow V.heap.size 9 1 v1 k (strs ((names F).take k))) := Lib.hid (by rw [← hW0]; exact HO1.out.alloc _)
      have HO2' : Hid (W0.ownsRow V.heap.size 9 1 v2 k (strs ((crashT F ps).take k))) := Lib.hid (by rw [← hW0]; exact HO2.out.alloc _)
      have HPk0 : Hid (∀ h : k < ps.length, ∃ a, P = some a ∧ W0.cell? (a.add k) = some (.int .i64 (ps.getD k 0))) := Lib.hid fun h => by
        obtain ⟨a, e1, e2, e3⟩ := HP.out.some_ (by omega)
        exact ⟨a, e1, (HB0.out.cell (p := a.add k) (by rw [add_block]; omega)).trans (e3 k h)⟩
      obtain ⟨bx, hbx⟩ : ∃ bx, wr.heap.size = bx := ⟨_, rfl⟩
      have HBX := Lib.hid hbx
      have HO1l : Hid (∀ j, v1.ownBlock = some j → j < bx) := Lib.hid (fun j hj => by rw [← hbx]; exact (HO1.out.lt j hj).2)
      have HO2l : Hid (∀ j, v2.ownBlock = some j → j < bx) := Lib.hid (fun j hj => by rw [← hbx]; exact (HO2.out.lt j hj).2)
      rw [hbx] at HBx HZ0
      have x0 : W0.cell? ⟨bx, 0, none⟩ = some (.string (str f.n)) := HBx.out.cell 0
      clear HPk HFk hlt
      by_cases hp : k < ps.length ∧ 0 < ps.getD k 0
      · obtain ⟨hpk, hp0⟩ := hp
        obtain ⟨a, ha, e3⟩ := HPk0.out hpk
        subst ha
        have hpI : (k : Int) < (ps.length : Int) := by omega
        have hq1 : decide ((0 : Int) < ps.getD k 0) = true := by simpa using hp0
        have hkc : ((crashT F ps).take k ++ [f.t.take (f.s + min (ps.getD k 0).toNat (f.t.length - f.s))] = (crashT F ps).take (k + 1)) := HT2.out
        obtain ⟨q, hq⟩ : ∃ q : Nat, ps.getD k 0 = (q : Int) := ⟨(ps.getD k 0).toNat, by omega⟩
        rw [hq] at e3 hq1 hkc
        have hq0 : (0 : Int) < (q : Int) := by omega
        clear hp0 hq
        rw [Int.toNat_natCast] at hkc
        have hsz := HSz.out
        have hw1 : IntKind.i64.wrap (((str f.t).size : Int) - (f.s : Int)) = ((f.t.length - f.s : Nat) : Int) := by
          rw [hsz, IntWalk.i64_in _ ⟨by omega, by omega⟩]; omega
        have hmin : min (q : Int) ((f.t.length - f.s : Nat) : Int) = ((min q (f.t.length - f.s) : Nat) : Int) := by omega
        obtain ⟨x, hx⟩ : ∃ x, f.s + min q (f.t.length - f.s) = x := ⟨_, rfl⟩
        have hxl : x ≤ f.t.length := by omega
        have hw2 : IntKind.i64.wrap ((f.s : Int) + ((min q (f.t.length - f.s) : Nat) : Int)) = (x : Int) := by
          rw [IntWalk.i64_in _ ⟨by omega, by omega⟩]; omega
        rw [hx] at hkc
        have hxs : (x : Int) ≤ ((str f.t).size : Int) := by rw [hsz]; omega
        have hx0 : (0 : Int) ≤ (x : Int) := by omega
        have hcut : (str f.t).extract 0 x = str (f.t.take x) := by
          apply ByteArray.ext
          simp [str]
        have HKC : Hid (strs ((crashT F ps).take k) ++ [.string ((str f.t).extract 0 x)] = strs ((crashT F ps).take (k + 1))) := Lib.hid (by rw [← hkc, strs_snoc, hcut])
        have HT1s : Hid (strs ((names F).take k) ++ [.string (str f.n)] = strs ((names F).take (k + 1))) := Lib.hid (by rw [← HT1.out, strs_snoc])
        obtain ⟨mn, hmn⟩ : ∃ mn, f.t.length - f.s = mn := ⟨_, rfl⟩
        rw [hmn] at hw1 hmin hw2
        clear hkc hcut hsz hx hmn HSz hxl htl hsl HT1 HT2
        generalize str f.n = sn at *
        generalize str f.t = st at *
        generalize f.s = s at *
        go_wp2_with (at_builtin; go_must (refine wpList_append_own_at _ rfl (.tmp 42) (.tmp 45) _ rfl V.heap.size 9 i0 (.string ⟨#[]⟩) 1 16 Try.underlying22 hi hz0 hz1 hz2 rfl (by decide) v1 k _ rfl (HO1'.out.alloc _) ⟨W0.heap.size, 0, none⟩ 1 1 [.string sn] rfl rfl (cell_one_new _ _ _) (strs_one _) (by unfold maxLen; omega) (by omega) (by have := HB0.out.size; simp; omega) ?_))
        intro v1' W1 ho1 hg1 hn1 hloc1
        have hZb := HZ0.out
        have hVb := HBX.out
        have ho2 := own_kept0 (HO2'.out.alloc (.cells #[.string sn] 9)) hg1 (fun j hj => HD.out j hj)
        have hbx1 := (HBx.out.alloc (.cells #[.string sn] 9)).grown hg1 (fun e => by
          have := HO1l.out bx e.symm
          omega)
        have hb1 : Below V.heap.size V W1 := ((HB0.out.alloc HB0.out.size (.cells #[.string sn] 9))).grown hg1 (by simp; omega) (fun j hj => (HO1.out.lt j hj).1)
        have hzz1 : W0.heap.size + 1 ≤ W1.heap.size := by
          have h0 : (W0.alloc (.cells #[.string sn] 9)).heap.size = W0.heap.size + 1 := by simp
          rw [← h0]
          exact hg1.size
        rw [HT1s.out] at ho1
        have y0 : W1.cell? ⟨bx, 0, none⟩ = some (.string sn) := hbx1.cell 0
        have y1 : W1.cell? ⟨bx, 1, none⟩ = some (.string st) := hbx1.cell 1
        have y2 : W1.cell? ⟨bx, 2, none⟩ = some (.int .i64 (s : Int)) := hbx1.cell 2
        have hl1 : ∀ j, v1'.ownBlock = some j → j < W1.heap.size := fun j hj => (ho1.lt j hj).2
        have HV1 : Hid (∀ j, v2.ownBlock = some j → v1'.ownBlock ≠ some j) := Lib.hid (fun j hj e => by
          have h2 := HO2l.out j hj
          rcases hloc1 with h1 | h1
          · exact HD.out j hj (h1.symm.trans e)
          · rw [h1] at e
            injection e with e
            have h0 : (W0.alloc (.cells #[.string sn] 9)).heap.size = W0.heap.size + 1 := by simp
            omega)
        have HOa := Lib.hid ho1
        have HOb := Lib.hid ho2
        have HBb := Lib.hid hb1
        have HL1 := Lib.hid hl1
        have hz1b := HB.out.size
        clear hZb hVb ho1 ho2 hg1 hn1 hloc1 hbx1 hb1 hl1 x0 d0 d1 d2 c1
        go_wp2_with (at_builtin; go_must (refine wpList_append_own_at _ rfl (.tmp 47) (.tmp 62) _ rfl V.heap.size 9 i0 (.string ⟨#[]⟩) 1 16 Try.underlying22 hi hz0 hz1 hz2 rfl (by decide) v2 k _ rfl (HOb.out.alloc _) ⟨W1.heap.size, 0, none⟩ 1 1 [.string (st.extract 0 x)] rfl rfl (cell_one_new _ _ _) (strs_one _) (by unfold maxLen; omega) (by omega) (by have := HBb.out.size; simp; omega) ?_))
        intro v2' W2 ho2 hg2 hn2 hloc2
        rw [HKC.out] at ho2
        have ho1 := own_kept0 (HOa.out.alloc (.cells #[.string (st.extract 0 x)] 9)) hg2 (fun j hj e => HV1.out j e hj)
        have hb2 : Below V.heap.size V W2 := ((HBb.out.alloc HBb.out.size (.cells #[.string (st.extract 0 x)] 9))).grown hg2 (by have := HBb.out.size; simp; omega) (fun j hj => (HO2.out.lt j hj).1)
        have HV2 : Hid (∀ j, v2'.ownBlock = some j → v1'.ownBlock ≠ some j) := Lib.hid (fun j hj e => by
          have h2 := HL1.out j e
          rcases hloc2 with h1 | h1
          · exact HV1.out j (h1.symm.trans hj) e
          · rw [h1] at hj
            injection hj with hj
            have h0 : (W1.alloc (.cells #[.string (st.extract 0 x)] 9)).heap.size = W1.heap.size + 1 := by simp
            omega)
        have HO1f := Lib.hid ho1
        have HO2f := Lib.hid ho2
        have HBf := Lib.hid hb2
        clear ho1 ho2 hg2 hn2 hloc2 hb2 y0 y1 y2
        go_wp2_with fail
        go_roundw
        case rel => exact ⟨_, _, k + 1, by omega, rfl, rfl, by go_num, HO1f.out, HO2f.out, HV2.out, HBf.out⟩
        case measure => simp [RowKit.intOf]; omega
      · have hpn : ¬ (k < ps.length) ∨ (∃ a, P = some a ∧ k < ps.length ∧ W0.cell? (a.add k) = some (.int .i64 (ps.getD k 0)) ∧ ps.getD k 0 ≤ 0) := by
          by_cases h1 : k < ps.length
          · obtain ⟨a, e1, e2⟩ := HPk0.out h1
            exact .inr ⟨a, e1, h1, e2, by omega⟩
          · exact .inl h1
        have hp0 : (ps.getD k 0).toNat = 0 := by
          rcases hpn with h1 | ⟨_, _, _, _, h1⟩
          · rw [List.getD_eq_getElem?_getD, List.getElem?_eq_none (by omega)]; rfl
          · omega
        have hkc : ((crashT F ps).take k ++ [f.t.take (f.s + min 0 (f.t.length - f.s))] = (crashT F ps).take (k + 1)) := by
          have := HT2.out
          unfold keptT at this
          rw [hp0] at this
          exact this
        clear hp0 hp
        obtain ⟨q, hq⟩ : ∃ q : Nat, q = 0 := ⟨0, rfl⟩
        rw [show min 0 (f.t.length - f.s) = min q (f.t.length - f.s) by rw [hq]] at hkc
        rcases hpn with h1 | ⟨a, ha, h1, e3, e4⟩
        · have hpI : ¬ (k : Int) < (ps.length : Int) := by omega
          clear h1
          have hq0 : (q : Int) = 0 := by omega
          subst hq
          have hsz := HSz.out
          have hw1 : IntKind.i64.wrap (((str f.t).size : Int) - (f.s : Int)) = ((f.t.length - f.s : Nat) : Int) := by
            rw [hsz, IntWalk.i64_in _ ⟨by omega, by omega⟩]; omega
          rw [Nat.zero_min, Nat.add_zero] at hkc
          have hw3 : wrap64 (f.s : Int) = (f.s : Int) := w64 f.s (Nat.le_trans hsl htl)
          have hxs : wrap64 (f.s : Int) ≤ ((str f.t).size : Int) := by rw [hsz, hw3]; exact Int.ofNat_le.2 hsl
          have hx0 : (0 : Int) ≤ wrap64 (f.s : Int) := by rw [hw3]; exact Int.natCast_nonneg _
          have htn : (wrap64 (f.s : Int)).toNat = f.s := by rw [hw3]; exact Int.toNat_natCast _
          clear hw3
          have hcut : (str f.t).extract 0 f.s = str (f.t.take f.s) := by
            apply ByteArray.ext
            simp [str]
          have HKC : Hid (strs ((crashT F ps).take k) ++ [.string ((str f.t).extract 0 f.s)] = strs ((crashT F ps).take (k + 1))) := Lib.hid (by rw [← hkc, strs_snoc, hcut])
          have HT1s : Hid (strs ((names F).take k) ++ [.string (str f.n)] = strs ((names F).take (k + 1))) := Lib.hid (by rw [← HT1.out, strs_snoc])
          obtain ⟨mn, hmn⟩ : ∃ mn, f.t.length - f.s = mn := ⟨_, rfl⟩
          rw [hmn] at hw1
          have hmin : min (0 : Int) (mn : Int) = 0 := by omega
          clear hkc hcut hsz hmn HSz htl hsl HT1 HT2
          generalize str f.n = sn at *
          generalize str f.t = st at *
          generalize f.s = s at *
          go_wp2_with (at_builtin; go_must (refine wpList_append_own_at _ rfl (.tmp 42) (.tmp 45) _ rfl V.heap.size 9 i0 (.string ⟨#[]⟩) 1 16 Try.underlying22 hi hz0 hz1 hz2 rfl (by decide) v1 k _ rfl (HO1'.out.alloc _) ⟨W0.heap.size, 0, none⟩ 1 1 [.string sn] rfl rfl (cell_one_new _ _ _) (strs_one _) (by unfold maxLen; omega) (by omega) (by have := HB0.out.size; simp; omega) ?_))
          intro v1' W1 ho1 hg1 hn1 hloc1
          have hZb := HZ0.out
          have hVb := HBX.out
          have ho2 := own_kept0 (HO2'.out.alloc (.cells #[.string sn] 9)) hg1 (fun j hj => HD.out j hj)
          have hbx1 := (HBx.out.alloc (.cells #[.string sn] 9)).grown hg1 (fun e => by
            have := HO1l.out bx e.symm
            omega)
          have hb1 : Below V.heap.size V W1 := ((HB0.out.alloc HB0.out.size (.cells #[.string sn] 9))).grown hg1 (by simp; omega) (fun j hj => (HO1.out.lt j hj).1)
          have hzz1 : W0.heap.size + 1 ≤ W1.heap.size := by
            have h0 : (W0.alloc (.cells #[.string sn] 9)).heap.size = W0.heap.size + 1 := by simp
            rw [← h0]
            exact hg1.size
          rw [HT1s.out] at ho1
          have y0 : W1.cell? ⟨bx, 0, none⟩ = some (.string sn) := hbx1.cell 0
          have y1 : W1.cell? ⟨bx, 1, none⟩ = some (.string st) := hbx1.cell 1
          have y2 : W1.cell? ⟨bx, 2, none⟩ = some (.int .i64 (s : Int)) := hbx1.cell 2
          have hl1 : ∀ j, v1'.ownBlock = some j → j < W1.heap.size := fun j hj => (ho1.lt j hj).2
          have HV1 : Hid (∀ j, v2.ownBlock = some j → v1'.ownBlock ≠ some j) := Lib.hid (fun j hj e => by
            have h2 := HO2l.out j hj
            rcases hloc1 with h1 | h1
            · exact HD.out j hj (h1.symm.trans e)
            · rw [h1] at e
              injection e with e
              have h0 : (W0.alloc (.cells #[.string sn] 9)).heap.size = W0.heap.size + 1 := by simp
              omega)
          have HOa := Lib.hid ho1
          have HOb := Lib.hid ho2
          have HBb := Lib.hid hb1
          have HL1 := Lib.hid hl1
          have hz1b := HB.out.size
          clear hZb hVb ho1 ho2 hg1 hn1 hloc1 hbx1 hb1 hl1 x0 d0 d1 d2 c1
          go_wp2_with (at_builtin; go_must (refine wpList_append_own_at _ rfl (.tmp 47) (.tmp 62) _ rfl V.heap.size 9 i0 (.string ⟨#[]⟩) 1 16 Try.underlying22 hi hz0 hz1 hz2 rfl (by decide) v2 k _ rfl (HOb.out.alloc _) ⟨W1.heap.size, 0, none⟩ 1 1 [.string (st.extract 0 s)] rfl rfl (cell_one_new _ _ _) (strs_one _) (by unfold maxLen; omega) (by omega) (by have := HBb.out.size; simp; omega) ?_))
          intro v2' W2 ho2 hg2 hn2 hloc2
          rw [HKC.out] at ho2
          have ho1 := own_kept0 (HOa.out.alloc (.cells #[.string (st.extract 0 s)] 9)) hg2 (fun j hj e => HV1.out j e hj)
          have hb2 : Below V.heap.size V W2 := ((HBb.out.alloc HBb.out.size (.cells #[.string (st.extract 0 s)] 9))).grown hg2 (by have := HBb.out.size; simp; omega) (fun j hj => (HO2.out.lt j hj).1)
          have HV2 : Hid (∀ j, v2'.ownBlock = some j → v1'.ownBlock ≠ some j) := Lib.hid (fun j hj e => by
            have h2 := HL1.out j e
            rcases hloc2 with h1 | h1
            · exact HV1.out j (h1.symm.trans hj) e
            · rw [h1] at hj
              injection hj with hj
              have h0 : (W1.alloc (.cells #[.string (st.extract 0 s)] 9)).heap.size = W1.heap.size + 1 := by simp
              omega)
          have HO1f := Lib.hid ho1
          have HO2f := Lib.hid ho2
          have HBf := Lib.hid hb2
          clear ho1 ho2 hg2 hn2 hloc2 hb2 y0 y1 y2
          go_wp2_with fail
          go_roundw
          case rel => exact ⟨_, _, k + 1, by omega, rfl, rfl, by go_num, HO1f.out, HO2f.out, HV2.out, HBf.out⟩
          case measure => simp [RowKit.intOf]; omega
        · subst ha
          have hpI : (k : Int) < (ps.length : Int) := by omega
          generalize ps.getD k 0 = p at e3 e4
          have hq1 : decide ((0 : Int) < p) = false := by simp; omega
          have hq2 : ¬ (0 : Int) < p := by omega
          subst hq
          have hsz := HSz.out
          have hw1 : IntKind.i64.wrap (((str f.t).size : Int) - (f.s : Int)) = ((f.t.length - f.s : Nat) : Int) := by
            rw [hsz, IntWalk.i64_in _ ⟨by omega, by omega⟩]; omega
          rw [Nat.zero_min, Nat.add_zero] at hkc
          have hw3 : wrap64 (f.s : Int) = (f.s : Int) := w64 f.s (Nat.le_trans hsl htl)
          have hxs : wrap64 (f.s : Int) ≤ ((str f.t).size : Int) := by rw [hsz, hw3]; exact Int.ofNat_le.2 hsl
          have hx0 : (0 : Int) ≤ wrap64 (f.s : Int) := by rw [hw3]; exact Int.natCast_nonneg _
          have htn : (wrap64 (f.s : Int)).toNat = f.s := by rw [hw3]; exact Int.toNat_natCast _
          clear hw3
          have hcut : (str f.t).extract 0 f.s = str (f.t.take f.s) := by
            apply ByteArray.ext
            simp [str]
          have HKC : Hid (strs ((crashT F ps).take k) ++ [.string ((str f.t).extract 0 f.s)] = strs ((crashT F ps).take (k + 1))) := Lib.hid (by rw [← hkc, strs_snoc, hcut])
          have HT1s : Hid (strs ((names F).take k) ++ [.string (str f.n)] = strs ((names F).take (k + 1))) := Lib.hid (by rw [← HT1.out, strs_snoc])
          obtain ⟨mn, hmn⟩ : ∃ mn, f.t.length - f.s = mn := ⟨_, rfl⟩
          rw [hmn] at hw1
          have hmin : min (0 : Int) (mn : Int) = 0 := by omega
          clear hkc hcut hsz hmn HSz htl hsl HT1 HT2
          generalize str f.n = sn at *
          generalize str f.t = st at *
          generalize f.s = s at *
          go_wp2_with (at_builtin; go_must (refine wpList_append_own_at _ rfl (.tmp 42) (.tmp 45) _ rfl V.heap.size 9 i0 (.string ⟨#[]⟩) 1 16 Try.underlying22 hi hz0 hz1 hz2 rfl (by decide) v1 k _ rfl (HO1'.out.alloc _) ⟨W0.heap.size, 0, none⟩ 1 1 [.string sn] rfl rfl (cell_one_new _ _ _) (strs_one _) (by unfold maxLen; omega) (by omega) (by have := HB0.out.size; simp; omega) ?_))
          intro v1' W1 ho1 hg1 hn1 hloc1
          have hZb := HZ0.out
          have hVb := HBX.out
          have ho2 := own_kept0 (HO2'.out.alloc (.cells #[.string sn] 9)) hg1 (fun j hj => HD.out j hj)
          have hbx1 := (HBx.out.alloc (.cells #[.string sn] 9)).grown hg1 (fun e => by
            have := HO1l.out bx e.symm
            omega)
          have hb1 : Below V.heap.size V W1 := ((HB0.out.alloc HB0.out.size (.cells #[.string sn] 9))).grown hg1 (by simp; omega) (fun j hj => (HO1.out.lt j hj).1)
          have hzz1 : W0.heap.size + 1 ≤ W1.heap.size := by
            have h0 : (W0.alloc (.cells #[.string sn] 9)).heap.size = W0.heap.size + 1 := by simp
            rw [← h0]
            exact hg1.size
          rw [HT1s.out] at ho1
          have y0 : W1.cell? ⟨bx, 0, none⟩ = some (.string sn) := hbx1.cell 0
          have y1 : W1.cell? ⟨bx, 1, none⟩ = some (.string st) := hbx1.cell 1
          have y2 : W1.cell? ⟨bx, 2, none⟩ = some (.int .i64 (s : Int)) := hbx1.cell 2
          have hl1 : ∀ j, v1'.ownBlock = some j → j < W1.heap.size := fun j hj => (ho1.lt j hj).2
          have HV1 : Hid (∀ j, v2.ownBlock = some j → v1'.ownBlock ≠ some j) := Lib.hid (fun j hj e => by
            have h2 := HO2l.out j hj
            rcases hloc1 with h1 | h1
            · exact HD.out j hj (h1.symm.trans e)
            · rw [h1] at e
              injection e with e
              have h0 : (W0.alloc (.cells #[.string sn] 9)).heap.size = W0.heap.size + 1 := by simp
              omega)
          have HOa := Lib.hid ho1
          have HOb := Lib.hid ho2
          have HBb := Lib.hid hb1
          have HL1 := Lib.hid hl1
          have hz1b := HB.out.size
          clear hZb hVb ho1 ho2 hg1 hn1 hloc1 hbx1 hb1 hl1 x0 d0 d1 d2 c1
          go_wp2_with (at_builtin; go_must (refine wpList_append_own_at _ rfl (.tmp 47) (.tmp 62) _ rfl V.heap.size 9 i0 (.string ⟨#[]⟩) 1 16 Try.underlying22 hi hz0 hz1 hz2 rfl (by decide) v2 k _ rfl (HOb.out.alloc _) ⟨W1.heap.size, 0, none⟩ 1 1 [.string (st.extract 0 s)] rfl rfl (cell_one_new _ _ _) (strs_one _) (by unfold maxLen; omega) (by omega) (by have := HBb.out.size; simp; omega) ?_))
          intro v2' W2 ho2 hg2 hn2 hloc2
          rw [HKC.out] at ho2
          have ho1 := own_kept0 (HOa.out.alloc (.cells #[.string (st.extract 0 s)] 9)) hg2 (fun j hj e => HV1.out j e hj)
          have hb2 : Below V.heap.size V W2 := ((HBb.out.alloc HBb.out.size (.cells #[.string (st.extract 0 s)] 9))).grown hg2 (by have := HBb.out.size; simp; omega) (fun j hj => (HO2.out.lt j hj).1)
          have HV2 : Hid (∀ j, v2'.ownBlock = some j → v1'.ownBlock ≠ some j) := Lib.hid (fun j hj e => by
            have h2 := HL1.out j e
            rcases hloc2 with h1 | h1
            · exact HV1.out j (h1.symm.trans hj) e
            · rw [h1] at hj
              injection hj with hj
              have h0 : (W1.alloc (.cells #[.string (st.extract 0 s)] 9)).heap.size = W1.heap.size + 1 := by simp
              omega)
          have HO1f := Lib.hid ho1
          have HO2f := Lib.hid ho2
          have HBf := Lib.hid hb2
          clear ho1 ho2 hg2 hn2 hloc2 hb2 y0 y1 y2
          go_wp2_with fail
          go_roundw
          case rel => exact ⟨_, _, k + 1, by omega, rfl, rfl, by go_num, HO1f.out, HO2f.out, HV2.out, HBf.out⟩
          case measure => simp [RowKit.intOf]; omega
    · have hkI : ¬ (k : Int) < (F.length : Int) := by omega
      obtain rfl : k = F.length := by omega
      have ho1 := HO1.out
      have ho2 := HO2.out
      rw [List.take_of_length_le (by rw [names_len]; exact Nat.le_refl _)] at ho1
      rw [List.take_of_length_le (by rw [HCr.out]; exact Nat.le_refl _)] at ho2
      obtain ⟨B1, cb1, rfl⟩ := own_any ho1
      obtain ⟨B2, cb2, rfl⟩ := own_any ho2
      have hbx := HR.out.box
      have f3 := hbx.frozen 3
      have hc3 : wr.cell? ⟨r, 3, none⟩ = some (.bool false) := hbx.cell 3
      have hg := grown_setCell wr r 3 (.bool true)
      have HF1 := Lib.hid (own_kept0 ho1 hg (fun j hj e => by
        injection e with e
        have := (ho1.lt j hj).1
        have := H.out.lt r H.out.inY
        omega))
      have HF2 := Lib.hid (own_kept0 ho2 hg (fun j hj e => by
        injection e with e
        have := (ho2.lt j hj).1
        have := H.out.lt r H.out.inY
        omega))
      have HC := Lib.hid ((Chg.of_below (X := Y) HB.out).tr (Chg.of_grown (X := Y) hg (fun k hk => by cases hk; exact H.out.inY)))
      clear ho1 ho2 hbx hg HO1 HO2
      go_wp2_with fail
      go_ret2
      exact ⟨_, _, _, _, rfl, HF1.out, HF2.out, HC.out⟩
end
end Go.Proofs.Ytgimecgdfcckbaa.Dsk
