/- The document's own answer: a file cut. -/
import Derived.Test.YtgimecgdfcckbaaDskRSync
namespace Go.Proofs.Ytgimecgdfcckbaa.Dsk
open Go.RowKit Go.Lib Go.Maps

section
variable {w : World} {Y : Nat → Prop} {r : Nat} {F : List Fl} {A : Option Addr} {c : Nat}
set_option maxRecDepth 100000 in
set_option maxHeartbeats 8000000 in
theorem RCut_is (n : List UInt8) (k E : Int) (hs : Sorted F) (hl : F.length ≤ 1000) (ht : ∀ f ∈ F, f.t.length ≤ 65536) (hsf : ∀ f ∈ F, f.s ≤ f.t.length) (h : RkAt w Y r F A c) (hE : cutE F n k = E) :
    Calls Try.prog 47 #[.pointer (some ⟨r, 0, none⟩), .string (str n), .int .i64 k] w fun e w' => e = .returned (.int .i64 E) ∧ RThen Y w w' r (cutF F n k) := by
  have HCt := Lib.hid (counts_is w Y r F A c h)
  have H := Lib.hid h
  have c0 : w.cell? ⟨r, 0, none⟩ = some (.slice A F.length c) := h.box.cell 0
  rcases find_look (n := n) hs with ⟨i, hi, hn, hlk, hfi⟩ | ⟨hlk, hfi⟩
  · have HFd := Lib.hid (find_is w Y r F A c n (i : Int) (by omega) h hfi)
    have htl := ht F[i] (List.getElem_mem hi)
    have hsl := hsf F[i] (List.getElem_mem hi)
    have HSz : Hid ((str F[i].t).size = F[i].t.length) := Lib.hid (str_size _)
    have hiI : (i : Int) < (F.length : Int) := by omega
    have hi0 : ¬ (i : Int) < 0 := by omega
    obtain ⟨g, rfl, hY, hgl, hgr, hfz⟩ := h.addr (by omega)
    have e1 := (h.at_ hi).2.1
    by_cases hk : 0 ≤ k ∧ k ≤ (F[i].t.length : Int)
    · obtain ⟨x, rfl⟩ : ∃ x : Nat, k = (x : Int) := ⟨k.toNat, by omega⟩
      have hE0 : cutE F n x = 0 := by unfold cutE; rw [hlk]; exact if_pos hk
      have HEE := Lib.hid (hE0.symm.trans hE)
      have HG : Hid (cutF F n x = F.set i ⟨F[i].n, F[i].t.take x, min F[i].s x⟩) := Lib.hid (by
        unfold cutF
        rw [if_pos hE0, ← hn, at_edit hs hi]
        rfl)
      have HNm := Lib.hid (Num_is (x : Int) ((str F[i].t).size : Int) true w (by rw [HSz.out]; simpa using hk))
      have hx : (x : Int) ≤ ((str F[i].t).size : Int) := by rw [HSz.out]; exact hk.2
      have hcut : (str F[i].t).extract 0 x = str (F[i].t.take x) := by
        apply ByteArray.ext
        simp [str]
      have hd := h.drew
      have d1 := (hd.at_ hi).2.1
      have fz1 : w.drew.frozen? ⟨g, i * 3 + 1, none⟩ = false := hfz _
      have c1 : w.drew.cell? ⟨r, 0, none⟩ = some (.slice (some ⟨g, 0, none⟩) F.length c) := hd.box.cell 0
      have hN1 := hd.set hi (show 1 < 3 by omega) (.string (str (F[i].t.take x))) ⟨F[i].n, F[i].t.take x, F[i].s⟩ rfl
      have HC1 := Lib.hid ((chg_drew (Y := Y) (w := w)).tr (chg_cell (j := i * 3 + 1) (v := .string (str (F[i].t.take x))) hY))
      have HN1 := Lib.hid hN1
      have HI := Lib.hid hi
      have HY := Lib.hid hY
      have HFi : Hid (∃ f, F[i] = f) := Lib.hid ⟨_, rfl⟩
      clear h hE hlk hfi ht hs hn hsf hE0 hk hd hN1
      generalize hf : F[i] = f at *
      have HF := Lib.hid hf
      clear hf
      rw [← hcut] at HN1 HC1
      have HCut := Lib.hid hcut
      clear hcut
      generalize str f.t = st at HSz HN1 HC1 d1 e1 HNm hx HCut
      generalize str n = sn at HFd
      go_enter Try.func47, Try.ntmps47
      go_wp2_with fail
      refine HCt.out.mono ?_
      rintro e w1 ⟨rfl, rfl⟩
      go_wp2_with fail
      refine HFd.out.mono ?_
      rintro e w2 ⟨rfl, rfl⟩
      clear HCt HFd
      go_wp2_with fail
      refine HNm.out.mono ?_
      rintro e w3 ⟨rfl, rfl⟩
      clear HNm
      go_wp2_with fail
      go_still_tail 17, (by kernel_rfl)
      change wpList _ _ _ _ _ w3.drew
      have hx0 : (0 : Int) ≤ (x : Int) := by omega
      clear c0 e1
      generalize w3.drew = V at HN1 HC1 d1 fz1 c1 ⊢
      go_wp2_with fail
      clear c1 d1 fz1
      obtain ⟨V1, hV1⟩ : ∃ V1, V.setCell ⟨g, i * 3 + 1, none⟩ (.string (st.extract 0 x)) = V1 := ⟨_, rfl⟩
      rw [hV1] at HN1 HC1 ⊢
      clear hV1
      have hd := HN1.out.drew
      have hi2 : i < (F.set i ⟨f.n, f.t.take x, f.s⟩).length := by rw [List.length_set]; exact HI.out
      have d2 := (hd.at_ hi2).2.2
      rw [List.getElem_set_self] at d2
      have d2 : V1.drew.cell? ⟨g, i * 3 + 2, none⟩ = some (.int .i64 (f.s : Int)) := d2
      have c1 : V1.drew.cell? ⟨r, 0, none⟩ = some (.slice (some ⟨g, 0, none⟩) F.length c) := by
        have := hd.box.cell 0
        rw [List.length_set] at this
        exact this
      have c0 : V1.cell? ⟨r, 0, none⟩ = some (.slice (some ⟨g, 0, none⟩) F.length c) := c1
      obtain ⟨_, e0, _, _, _, hfz⟩ := hd.addr (by omega)
      injection e0 with e0
      injection e0 with e0
      subst e0
      have fz2 := hfz (i * 3 + 2)
      have hmin : min (f.s : Int) (x : Int) = ((min f.s x : Nat) : Int) := by omega
      have hN2 := hd.set hi2 (show 2 < 3 by omega) (.int .i64 ((min f.s x : Nat) : Int)) ⟨f.n, f.t.take x, min f.s x⟩ (by rw [List.getElem_set_self]; rfl)
      rw [List.set_set] at hN2
      have HN2 := Lib.hid hN2
      have HC2 := Lib.hid ((HC1.out.tr (chg_drew (Y := Y) (w := V1))).tr (chg_cell (j := i * 3 + 2) (v := .int .i64 ((min f.s x : Nat) : Int)) HY.out))
      clear hd hN2 HN1 HC1 hfz
      go_wp2_with fail
      go_still_tail 17, (by kernel_rfl)
      change wpList _ _ _ _ _ V1.drew
      clear c0
      generalize V1.drew = V2 at HN2 HC2 d2 fz2 c1 ⊢
      go_wp2_with fail
      go_ret
      exact ⟨by rw [← HEE.out]; rfl, by rw [HG.out]; exact rthen_at HN2.out HC2.out⟩
    · have hE1 : cutE F n k = 1 := by unfold cutE; rw [hlk]; exact if_neg hk
      have HEE := Lib.hid (hE1.symm.trans hE)
      have HG : Hid (cutF F n k = F) := Lib.hid (by unfold cutF; rw [if_neg (by rw [hE1]; decide)])
      have HNm := Lib.hid (Num_is k ((str F[i].t).size : Int) false w (by
        rw [HSz.out]
        by_cases h0 : 0 ≤ k
        · have : ¬ k ≤ (F[i].t.length : Int) := fun h1 => hk ⟨h0, h1⟩
          simp [this]
        · simp [h0]))
      clear h hE hlk hfi ht hs hn hsf hE1 hk HSz htl hsl
      generalize str F[i].t = st at e1 HNm
      generalize str n = sn at HFd
      go_enter Try.func47, Try.ntmps47
      go_wp2_with fail
      refine HCt.out.mono ?_
      rintro e w1 ⟨rfl, rfl⟩
      go_wp2_with fail
      refine HFd.out.mono ?_
      rintro e w2 ⟨rfl, rfl⟩
      clear HCt HFd
      go_wp2_with fail
      refine HNm.out.mono ?_
      rintro e w3 ⟨rfl, rfl⟩
      clear HNm
      go_wp2_with fail
      go_ret
      exact ⟨by rw [← HEE.out]; rfl, by rw [HG.out]; exact rthen_at H.out (Chg.refl _ _)⟩
  · have HFd := Lib.hid (find_is w Y r F A c n (-1) (by omega) h hfi)
    have hE3 : cutE F n k = 3 := by unfold cutE; rw [hlk]
    have HEE := Lib.hid (hE3.symm.trans hE)
    have HG : Hid (cutF F n k = F) := Lib.hid (by unfold cutF; rw [if_neg (by rw [hE3]; decide)])
    clear h hE hlk hfi ht hs hE3
    generalize str n = sn at HFd
    go_enter Try.func47, Try.ntmps47
    go_wp2_with fail
    refine HCt.out.mono ?_
    rintro e w1 ⟨rfl, rfl⟩
    go_wp2_with fail
    refine HFd.out.mono ?_
    rintro e w2 ⟨rfl, rfl⟩
    clear HCt HFd
    go_wp2_with fail
    go_ret
    exact ⟨by rw [← HEE.out]; rfl, by rw [HG.out]; exact rthen_at H.out (Chg.refl _ _)⟩
end
end Go.Proofs.Ytgimecgdfcckbaa.Dsk
