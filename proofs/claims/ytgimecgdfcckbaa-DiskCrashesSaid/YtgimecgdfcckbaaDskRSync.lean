/- The document's own answer: what is there is safe; deleted. -/
import Derived.Test.YtgimecgdfcckbaaDskRDel
namespace Go.Proofs.Ytgimecgdfcckbaa.Dsk
open Go.RowKit Go.Lib Go.Maps

section
variable {w : World} {Y : Nat → Prop} {r : Nat} {F : List Fl} {A : Option Addr} {c : Nat}
theorem rthen_at {w' : World} {F' : List Fl} (h : RkAt w' Y r F' A c) (hc : Chg Y w w') : RThen Y w w' r F' := rthen_same ⟨_, _, h⟩ hc
theorem RkAt.drew (h : RkAt w Y r F A c) : RkAt w.drew Y r F A c := h.below ((Below.refl _ _).drew)
theorem chg_cell {g j : Nat} {v : Value} (hY : Y g) : Chg Y w.drew (w.drew.setCell ⟨g, j, none⟩ v) := Chg.of_grown (X := Y) (grown_setCell w.drew g j v) (fun k hk => by cases hk; exact hY)
theorem chg_drew : Chg Y w w.drew := Chg.of_below (X := Y) ((Below.refl w.heap.size w).drew)
theorem Chg.tr {a b d : World} (h : Chg Y a b) (k : Chg Y b d) : Chg Y a d := h.trans k fun _ hk => .inl hk

set_option maxRecDepth 100000 in
set_option maxHeartbeats 8000000 in
theorem RSync_is (n : List UInt8) (E : Int) (hs : Sorted F) (hl : F.length ≤ 1000) (ht : ∀ f ∈ F, f.t.length ≤ 65536) (h : RkAt w Y r F A c) (hE : syncE F n = E) :
    Calls Try.prog 45 #[.pointer (some ⟨r, 0, none⟩), .string (str n)] w fun e w' => e = .returned (.int .i64 E) ∧ RThen Y w w' r (syncF F n) := by
  have HCt := Lib.hid (counts_is w Y r F A c h)
  have H := Lib.hid h
  have c0 : w.cell? ⟨r, 0, none⟩ = some (.slice A F.length c) := h.box.cell 0
  rcases find_look (n := n) hs with ⟨i, hi, hn, hlk, hfi⟩ | ⟨hlk, hfi⟩
  · have HFd := Lib.hid (find_is w Y r F A c n (i : Int) (by omega) h hfi)
    have HEE := Lib.hid (show (0 : Int) = E by rw [← hE]; unfold syncE; rw [hlk])
    have htl := ht F[i] (List.getElem_mem hi)
    have HG : Hid (syncF F n = F.set i ⟨F[i].n, F[i].t, F[i].t.length⟩) := Lib.hid (by rw [← hn]; exact at_edit hs hi _)
    obtain ⟨g, rfl, hY, hgl, hgr, hfz⟩ := h.addr (by omega)
    have d1 := (h.drew.at_ hi).2.1
    have d2 := (h.drew.at_ hi).2.2
    have fz : w.drew.frozen? ⟨g, i * 3 + 2, none⟩ = false := hfz _
    have c1 : w.drew.cell? ⟨r, 0, none⟩ = some (.slice (some ⟨g, 0, none⟩) F.length c) := h.drew.box.cell 0
    have HSz : Hid ((str F[i].t).size = F[i].t.length) := Lib.hid (str_size _)
    have HN := Lib.hid (h.drew.set hi (show 2 < 3 by omega) (.int .i64 (F[i].t.length : Int)) ⟨F[i].n, F[i].t, F[i].t.length⟩ rfl)
    have HC := Lib.hid ((chg_drew (Y := Y) (w := w)).tr (chg_cell (j := i * 3 + 2) (v := .int .i64 (F[i].t.length : Int)) hY))
    have hiI : (i : Int) < (F.length : Int) := by omega
    have hi0 : ¬ (i : Int) < 0 := by omega
    clear h hE hlk hfi hfz ht hs hn
    rw [← HSz.out] at HN HC
    generalize str F[i].t = st at HSz HN HC d1
    generalize str n = sn at HFd
    go_enter Try.func45, Try.ntmps45
    go_wp2_with fail
    refine HCt.out.mono ?_
    rintro e w1 ⟨rfl, rfl⟩
    go_wp2_with fail
    refine HFd.out.mono ?_
    rintro e w2 ⟨rfl, rfl⟩
    clear HCt HFd
    go_wp2_with fail
    go_still_tail 16, (by kernel_rfl)
    change wpList _ _ _ _ _ w2.drew
    clear c0
    generalize w2.drew = w3 at HN HC d1 d2 fz c1 ⊢
    go_wp2_with fail
    go_ret
    exact ⟨by rw [← HEE.out]; rfl, by rw [HG.out, ← HSz.out]; exact rthen_at HN.out HC.out⟩
  · have HFd := Lib.hid (find_is w Y r F A c n (-1) (by omega) h hfi)
    have HEE := Lib.hid (show (3 : Int) = E by rw [← hE]; unfold syncE; rw [hlk])
    have HG : Hid (syncF F n = F) := Lib.hid (edit_out (look_none hlk))
    clear h hE hlk hfi ht hs
    generalize str n = sn at HFd
    go_enter Try.func45, Try.ntmps45
    go_wp2_with fail
    refine HCt.out.mono ?_
    rintro e w1 ⟨rfl, rfl⟩
    go_wp2_with fail
    refine HFd.out.mono ?_
    rintro e w2 ⟨rfl, rfl⟩
    clear HCt HFd
    go_wp2_with fail
    go_ret
    exact ⟨by rw [← HEE.out]; rfl, by rw [HG.out]; exact rthen_at H.out (Chg.refl _ _)⟩

set_option maxRecDepth 100000 in
set_option maxHeartbeats 8000000 in
theorem RDel_is (n : List UInt8) (E : Int) (hs : Sorted F) (hl : F.length ≤ 1000) (h : RkAt w Y r F A c) (hE : syncE F n = E) :
    Calls Try.prog 49 #[.pointer (some ⟨r, 0, none⟩), .string (str n)] w fun e w' => e = .returned (.int .i64 E) ∧ RThen Y w w' r (delF F n) := by
  have HCt := Lib.hid (counts_is w Y r F A c h)
  have H := Lib.hid h
  rcases find_look (n := n) hs with ⟨i, hi, hn, hlk, hfi⟩ | ⟨hlk, hfi⟩
  · have HFd := Lib.hid (find_is w Y r F A c n (i : Int) (by omega) h hfi)
    have HEE := Lib.hid (show (0 : Int) = E by rw [← hE]; unfold syncE; rw [hlk])
    have HG : Hid (delF F n = F.eraseIdx i) := Lib.hid (by rw [← hn]; exact at_rm hs hi)
    have HD := Lib.hid (del_is i hi hl h)
    have hi0 : ¬ (i : Int) < 0 := by omega
    clear h hE hlk hfi hs hn
    generalize str n = sn at HFd
    go_enter Try.func49, Try.ntmps49
    go_wp2_with fail
    refine HCt.out.mono ?_
    rintro e w1 ⟨rfl, rfl⟩
    go_wp2_with fail
    refine HFd.out.mono ?_
    rintro e w2 ⟨rfl, rfl⟩
    clear HCt HFd
    go_wp2_with fail
    refine HD.out.mono ?_
    rintro e w3 ⟨rfl, hr⟩
    have HR := Lib.hid hr
    clear hr HD
    go_wp2_with fail
    go_ret
    exact ⟨by rw [← HEE.out]; rfl, by rw [HG.out]; exact HR.out⟩
  · have HFd := Lib.hid (find_is w Y r F A c n (-1) (by omega) h hfi)
    have HEE := Lib.hid (show (3 : Int) = E by rw [← hE]; unfold syncE; rw [hlk])
    have HG : Hid (delF F n = F) := Lib.hid (by
      show F.filter _ = F
      rw [List.filter_eq_self]
      intro g hg
      simpa using look_none hlk g hg)
    clear h hE hlk hfi hs
    generalize str n = sn at HFd
    go_enter Try.func49, Try.ntmps49
    go_wp2_with fail
    refine HCt.out.mono ?_
    rintro e w1 ⟨rfl, rfl⟩
    go_wp2_with fail
    refine HFd.out.mono ?_
    rintro e w2 ⟨rfl, rfl⟩
    clear HCt HFd
    go_wp2_with fail
    go_ret
    exact ⟨by rw [← HEE.out]; rfl, by rw [HG.out]; exact rthen_at H.out (Chg.refl _ _)⟩
end
end Go.Proofs.Ytgimecgdfcckbaa.Dsk
