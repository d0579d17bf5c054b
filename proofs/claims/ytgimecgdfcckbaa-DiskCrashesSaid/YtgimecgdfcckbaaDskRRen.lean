/- The document's own answer: a file named otherwise. -/
import Derived.Test.YtgimecgdfcckbaaDskRCut
namespace Go.Proofs.Ytgimecgdfcckbaa.Dsk
open Go.RowKit Go.Lib Go.Maps

section
variable {w w1 w2 : World} {Y Y1 : Nat → Prop} {r : Nat} {F F2 : List Fl} {A : Option Addr} {c : Nat}
theorem rthen_tr (h : Chg Y w w1) (hY : ∀ k, Y1 k → Y k ∨ w.heap.size ≤ k) (h2 : RThen Y1 w1 w2 r F2) : RThen Y w w2 r F2 := by
  obtain ⟨Y2, h3, hc2, hy2⟩ := h2
  exact ⟨Y2, h3, h.trans hc2 hY, fun k hk => (hy2 k hk).elim (hY k) fun h1 => .inr (Nat.le_trans h.size h1)⟩
theorem find_rk (n : List UInt8) (I : Int) (hl : F.length ≤ 1000) (h : Rk w Y r F) (hI : findI F n = I) :
    Calls Try.prog 61 #[.pointer (some ⟨r, 0, none⟩), .string (str n)] w fun e w' => e = .returned (.int .i64 I) ∧ w' = w := by
  obtain ⟨A, c, h⟩ := h
  exact find_is w Y r F A c n I (by omega) h hI
theorem del_rk (i : Nat) (hi : i < F.length) (hl : F.length ≤ 1000) (h : Rk w Y r F) :
    Calls Try.prog 64 #[.pointer (some ⟨r, 0, none⟩), .int .i64 (i : Int)] w fun e w' => e = .returned (.tuple #[]) ∧ RThen Y w w' r (F.eraseIdx i) := by
  obtain ⟨A, c, h⟩ := h
  exact del_is i hi hl h
theorem put_rk (f : Fl) (hl : F.length ≤ 1000) (h : Rk w Y r F) :
    Calls Try.prog 60 #[.pointer (some ⟨r, 0, none⟩), .agg #[.string (str f.n), .string (str f.t), .int .i64 (f.s : Int)]] w fun e w' => e = .returned (.tuple #[]) ∧ RThen Y w w' r (put F f) := by
  obtain ⟨A, c, h⟩ := h
  exact put_is f hl h

set_option maxRecDepth 100000 in
set_option maxHeartbeats 8000000 in
theorem RRename_is (a b : List UInt8) (E : Int) (hbl : b.length ≤ 140737488351232) (hs : Sorted F) (hl : F.length ≤ 1000) (ht : ∀ f ∈ F, f.t.length ≤ 65536) (hsf : ∀ f ∈ F, f.s ≤ f.t.length) (h : RkAt w Y r F A c) (hE : renE F a b = E) :
    Calls Try.prog 48 #[.pointer (some ⟨r, 0, none⟩), .string (str a), .string (str b)] w fun e w' => e = .returned (.int .i64 E) ∧ RThen Y w w' r (renF F a b) := by
  have HCt := Lib.hid (counts_is w Y r F A c h)
  have H := Lib.hid h
  have HLt := Lib.hid h.lt
  have c0 : w.cell? ⟨r, 0, none⟩ = some (.slice A F.length c) := h.box.cell 0
  rcases find_look (n := a) hs with ⟨i, hi, hn, hlk, hfi⟩ | ⟨hlk, hfi⟩
  · have HFd := Lib.hid (find_is w Y r F A c a (i : Int) (by omega) h hfi)
    have htl := ht F[i] (List.getElem_mem hi)
    have hsl := hsf F[i] (List.getElem_mem hi)
    have HSz : Hid ((str F[i].t).size = F[i].t.length) := Lib.hid (str_size _)
    have hiI : (i : Int) < (F.length : Int) := by omega
    have hi0 : ¬ (i : Int) < 0 := by omega
    obtain ⟨g, rfl, hY, hgl, hgr, hfz⟩ := h.addr (by omega)
    obtain ⟨e0, e1, e2⟩ := h.at_ hi
    cases hnb : nameB b with
    | false =>
      have HRn := Lib.hid (RName_is b false w hbl hnb)
      have hE1 : renE F a b = 1 := by unfold renE; rw [hlk]; simp [hnb]
      have HEE := Lib.hid (hE1.symm.trans hE)
      have HG : Hid (renF F a b = F) := Lib.hid (by unfold renF; rw [if_neg (by rw [hE1]; decide)])
      clear h hE hlk hfi ht hs hn hsf hE1 HSz htl hsl hbl e0 e1 e2
      generalize str a = sa at HFd
      generalize str b = sb at HRn
      go_enter Try.func48, Try.ntmps48
      go_wp2_with fail
      refine HCt.out.mono ?_
      rintro e w1 ⟨rfl, rfl⟩
      go_wp2_with fail
      refine HFd.out.mono ?_
      rintro e w2 ⟨rfl, rfl⟩
      clear HCt HFd
      go_wp2_with fail
      refine HRn.out.mono ?_
      rintro e w3 ⟨rfl, rfl⟩
      clear HRn
      go_wp2_with fail
      go_ret
      exact ⟨by rw [← HEE.out]; rfl, by rw [HG.out]; exact rthen_at H.out (Chg.refl _ _)⟩
    | true =>
      have HRn := Lib.hid (RName_is b true w hbl hnb)
      have HBx := Lib.hid (Bk.new w 89 #[.string (str F[i].n), .string (str F[i].t), .int .i64 (F[i].s : Int)])
      have hal := (Below.refl w.heap.size w).alloc (Nat.le_refl _) (.cells #[.string (str F[i].n), .string (str F[i].t), .int .i64 (F[i].s : Int)] 89)
      by_cases hsa : F[i].s < F[i].t.length
      · have hE1 : renE F a b = 6 := by unfold renE; rw [hlk]; simp [hnb, hsa]
        have HEE := Lib.hid (hE1.symm.trans hE)
        have HG : Hid (renF F a b = F) := Lib.hid (by unfold renF; rw [if_neg (by rw [hE1]; decide)])
        have HH := Lib.hid (h.below hal)
        have HC := Lib.hid (Chg.of_below (X := Y) hal)
        have q0 : decide (F[i].s < (str F[i].t).size) = true := by rw [HSz.out]; simpa using hsa
        have q1 : decide ((F[i].s : Int) < ((str F[i].t).size : Int)) = true := by rw [HSz.out]; simp; omega
        clear h hE hlk hfi ht hs hn hsf hE1 HSz htl hsl hbl hal hsa
        generalize F[i].s = s at *
        generalize str F[i].t = st at *
        generalize str F[i].n = sn at *
        generalize str a = sa at HFd
        generalize str b = sb at HRn
        go_enter Try.func48, Try.ntmps48
        go_wp2_with fail
        refine HCt.out.mono ?_
        rintro e w1 ⟨rfl, rfl⟩
        go_wp2_with fail
        refine HFd.out.mono ?_
        rintro e w2 ⟨rfl, rfl⟩
        clear HCt HFd
        go_wp2_with fail
        refine HRn.out.mono ?_
        rintro e w3 ⟨rfl, rfl⟩
        clear HRn
        go_wp2_with fail
        go_ret
        exact ⟨by rw [← HEE.out]; rfl, by rw [HG.out]; exact rthen_at HH.out HC.out⟩
      · have hst : F[i].s = F[i].t.length := by omega
        have hE1 : renE F a b = 0 := by unfold renE; rw [hlk]; simp [hnb, hsa]
        have HEE := Lib.hid (hE1.symm.trans hE)
        have hrm : rm F a = F.eraseIdx i := by rw [← hn]; exact at_rm hs hi
        have hG : renF F a b = put (rm (F.eraseIdx i) b) ⟨b, F[i].t, F[i].s⟩ := by unfold renF; rw [if_pos hE1, hlk, ← hrm]
        have hs1 : Sorted (F.eraseIdx i) := by rw [← hrm]; exact sorted_rm hs
        have hl1 : (F.eraseIdx i).length ≤ 1000 := Nat.le_trans (List.length_eraseIdx_le F i) hl
        have HH := Lib.hid (⟨_, _, h.below hal⟩ : Rk _ Y r F)
        have HBe := Lib.hid hal
        have q0 : decide (F[i].s < (str F[i].t).size) = false := by rw [HSz.out]; simpa using hsa
        have q1 : decide ((F[i].s : Int) < ((str F[i].t).size : Int)) = false := by rw [HSz.out]; simp; omega
        have HG := Lib.hid hG
        have HS1 := Lib.hid hs1
        have HI := Lib.hid hi
        have HDl := Lib.hid (fun W (h : Rk W Y r F) => del_rk i hi hl h)
        clear h hE hlk hfi ht hs hn hsf hE1 HSz htl hsl hbl hal hsa hs1 hG hrm hst
        obtain ⟨b0, hb0⟩ : ∃ b0, w.heap.size = b0 := ⟨_, rfl⟩
        generalize F[i] = f at *
        generalize F.eraseIdx i = F1 at *
        have HPr : Hid (∀ W Y1 F', F'.length ≤ 1000 → Rk W Y1 r F' → Calls Try.prog 60 #[.pointer (some ⟨r, 0, none⟩), .agg #[.string (str b), .string (str f.t), .int .i64 (f.s : Int)]] W fun e w' => e = .returned (.tuple #[]) ∧ RThen Y1 W w' r (put F' ⟨b, f.t, f.s⟩)) := Lib.hid (fun W Y1 F' h1 h2 => put_rk ⟨b, f.t, f.s⟩ h1 h2)
        have HFb : Hid (∀ W Y1 I, Rk W Y1 r F1 → findI F1 b = I → Calls Try.prog 61 #[.pointer (some ⟨r, 0, none⟩), .string (str b)] W fun e w' => e = .returned (.int .i64 I) ∧ w' = W) := Lib.hid (fun W Y1 I h1 h2 => find_rk b I hl1 h1 h2)
        generalize f.s = s at *
        generalize str f.t = st at *
        generalize str f.n = sn at *
        generalize str a = sa at HFd
        generalize str b = sb at HRn HPr HFb
        go_enter Try.func48, Try.ntmps48
        go_wp2_with fail
        refine HCt.out.mono ?_
        rintro e w1 ⟨rfl, rfl⟩
        go_wp2_with fail
        refine HFd.out.mono ?_
        rintro e w2 ⟨rfl, rfl⟩
        clear HCt HFd
        go_wp2_with fail
        refine HRn.out.mono ?_
        rintro e w3 ⟨rfl, rfl⟩
        clear HRn
        go_wp2_with fail
        rw [hb0] at HBx
        refine (HDl.out _ HH.out).mono ?_
        rintro e w4 ⟨rfl, Y1, hr1, hc1, hy1⟩
        have hb0w : b0 = w3.heap.size := hb0.symm
        have hsz : (w3.alloc (.cells #[.string sn, .string st, .int .i64 (s : Int)] 89)).heap.size = w3.heap.size + 1 := by simp
        have HB1 := Lib.hid (HBx.out.chg hc1 (fun h1 => by have := HLt.out _ h1; omega))
        have hy1' : ∀ k, Y1 k → Y k ∨ w3.heap.size < k := fun k hk => (hy1 k hk).imp id (fun h1 => by omega)
        have HY1 := Lib.hid hy1'
        have HC1 := Lib.hid ((Chg.of_below (X := Y) HBe.out).trans hc1 (fun _ hk => .inl hk))
        have HR1 := Lib.hid hr1
        clear hr1 hc1 hy1 hy1' HDl HH HBe HBx hsz hb0w e0 e1 e2 c0
        rcases find_look (n := b) HS1.out with ⟨k, hk, hkn, hlk, hfk⟩ | ⟨hlk, hfk⟩
        · have HFk := Lib.hid (HFb.out w4 Y1 (k : Int) HR1.out hfk)
          have HRb : Hid (rm F1 b = F1.eraseIdx k) := Lib.hid (by rw [← hkn]; exact at_rm HS1.out hk)
          have HK := Lib.hid hk
          have hk0 : decide ((0 : Int) ≤ (k : Int)) = true := by simp
          have hk1 : decide ((k : Int) < 0) = false := by simp
          clear hlk hfk hkn HFb
          go_wp2_with fail
          refine HFk.out.mono ?_
          rintro e w5 ⟨rfl, rfl⟩
          go_wp2_with fail
          refine (del_rk k HK.out hl1 HR1.out).mono ?_
          rintro e w6 ⟨rfl, Y2, hr2, hc2, hy2⟩
          have hb0w : b0 = w3.heap.size := hb0.symm
          have hs5 := HC1.out.size
          have hbx2 := HB1.out.chg hc2 (fun h1 => by rcases HY1.out _ h1 with h2 | h2; have := HLt.out _ h2; omega; omega)
          have hb1l := HB1.out.lt
          have hc2 := HC1.out.trans hc2 (fun k hk => (HY1.out k hk).imp id Nat.le_of_lt)
          have hy2 : ∀ k, Y2 k → Y k ∨ w3.heap.size < k := fun k hk => (hy2 k hk).elim (HY1.out k) (fun h1 => .inr (by omega))
          clear HC1 HY1 HR1 HFk HB1 hs5 hb0w hb1l
          have x0 : w6.cell? ⟨b0, 0, none⟩ = some (.string sn) := hbx2.cell 0
          have x1 : w6.cell? ⟨b0, 1, none⟩ = some (.string st) := hbx2.cell 1
          have x2 : w6.cell? ⟨b0, 2, none⟩ = some (.int .i64 (s : Int)) := hbx2.cell 2
          have z0 := hbx2.frozen 0
          have hgs := grown_setCell w6 b0 0 (.string sb)
          have hcs : Chg (fun k => k = b0) w6 (w6.setCell ⟨b0, 0, none⟩ (.string sb)) := Chg.of_grown (X := fun k => k = b0) hgs (fun k hk => by injection hk with e; exact e.symm)
          have hb0w : b0 = w3.heap.size := hb0.symm
          have HR5 := Lib.hid (hr2.kept hcs (fun k hk e => by
            subst e
            rcases hy2 _ hk with h1 | h1
            · have := HLt.out _ h1; omega
            · omega))
          have HC5 := Lib.hid (hc2.trans hcs (fun k hk => .inr (by have h3 : k = b0 := hk; omega)))
          have HY5 : Hid (∀ k, Y2 k → Y k ∨ w3.heap.size ≤ k) := Lib.hid (fun k hk => (hy2 k hk).imp id Nat.le_of_lt)
          clear hr2 hc2 hy2 hbx2 hgs hcs hb0w
          go_wp2_with fail
          refine (HPr.out _ _ _ (Nat.le_trans (List.length_eraseIdx_le F1 k) hl1) HR5.out).mono ?_
          rintro e w9 ⟨rfl, hr9⟩
          have HR9 := Lib.hid (rthen_tr HC5.out HY5.out hr9)
          clear hr9 HR5
          go_wp2_with fail
          go_ret
          exact ⟨by rw [← HEE.out]; rfl, by rw [HG.out, HRb.out]; exact HR9.out⟩
        · have HFk := Lib.hid (HFb.out w4 Y1 (-1) HR1.out hfk)
          have HRb : Hid (rm F1 b = F1) := Lib.hid (by
            show F1.filter _ = F1
            rw [List.filter_eq_self]
            intro g hg
            simpa using look_none hlk g hg)
          clear hlk hfk HFb
          go_wp2_with fail
          refine HFk.out.mono ?_
          rintro e w5 ⟨rfl, rfl⟩
          skip
          have hr2 := HR1.out
          have hc2 := HC1.out
          have hy2 := HY1.out
          have hbx2 := HB1.out
          clear HC1 HY1 HR1 HFk HB1
          have x0 : w5.cell? ⟨b0, 0, none⟩ = some (.string sn) := hbx2.cell 0
          have x1 : w5.cell? ⟨b0, 1, none⟩ = some (.string st) := hbx2.cell 1
          have x2 : w5.cell? ⟨b0, 2, none⟩ = some (.int .i64 (s : Int)) := hbx2.cell 2
          have z0 := hbx2.frozen 0
          have hgs := grown_setCell w5 b0 0 (.string sb)
          have hcs : Chg (fun k => k = b0) w5 (w5.setCell ⟨b0, 0, none⟩ (.string sb)) := Chg.of_grown (X := fun k => k = b0) hgs (fun k hk => by injection hk with e; exact e.symm)
          have hb0w : b0 = w3.heap.size := hb0.symm
          have HR5 := Lib.hid (hr2.kept hcs (fun k hk e => by
            subst e
            rcases hy2 _ hk with h1 | h1
            · have := HLt.out _ h1; omega
            · omega))
          have HC5 := Lib.hid (hc2.trans hcs (fun k hk => .inr (by have h3 : k = b0 := hk; omega)))
          have HY5 : Hid (∀ k, Y1 k → Y k ∨ w3.heap.size ≤ k) := Lib.hid (fun k hk => (hy2 k hk).imp id Nat.le_of_lt)
          clear hr2 hc2 hy2 hbx2 hgs hcs hb0w
          go_wp2_with fail
          refine (HPr.out _ _ _ hl1 HR5.out).mono ?_
          rintro e w9 ⟨rfl, hr9⟩
          have HR9 := Lib.hid (rthen_tr HC5.out HY5.out hr9)
          clear hr9 HR5
          go_wp2_with fail
          go_ret
          exact ⟨by rw [← HEE.out]; rfl, by rw [HG.out, HRb.out]; exact HR9.out⟩
  · have HFd := Lib.hid (find_is w Y r F A c a (-1) (by omega) h hfi)
    have hE3 : renE F a b = 3 := by unfold renE; rw [hlk]
    have HEE := Lib.hid (hE3.symm.trans hE)
    have HG : Hid (renF F a b = F) := Lib.hid (by unfold renF; rw [if_neg (by rw [hE3]; decide)])
    clear h hE hlk hfi ht hs hE3
    generalize str a = sa at HFd
    go_enter Try.func48, Try.ntmps48
    go_wp2_with fail
    refine HCt.out.mono ?_
    rintro e w1 ⟨rfl, rfl⟩
    go_wp2_with fail
    refine HFd.out.mono ?_
    rintro e w2 ⟨rfl, rfl⟩
    clear HCt HFd
    go_wp2_with fail
    go_ret
    exact ⟨by rw [← HEE.out]; rfl, by rw [HG.out]; exact rthen_at H.out (Chg.refl _ _)⟩
end
end Go.Proofs.Ytgimecgdfcckbaa.Dsk
