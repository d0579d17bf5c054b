/- The document's own answer: bytes put behind a file's. -/
import Derived.Test.YtgimecgdfcckbaaDskRRen
namespace Go.Proofs.Ytgimecgdfcckbaa.Dsk
open Go.RowKit Go.Lib Go.Maps

theorem tot_le {F : List Fl} (ht : ∀ f ∈ F, f.t.length ≤ 65536) : total F ≤ F.length * 65536 := by
  unfold total
  induction F with
  | nil => simp
  | cons a r ih =>
    have h1 := ht a (by simp)
    have h2 := ih fun f hf => ht f (by simp [hf])
    simp only [List.map_cons, List.sum_cons, List.length_cons]
    omega
theorem tot_take {F : List Fl} {k : Nat} (hk : k < F.length) : total (F.take (k + 1)) = total (F.take k) + F[k].t.length := by
  unfold total
  rw [List.take_add_one, List.getElem?_eq_getElem hk, List.map_append, List.sum_append]
  simp
theorem tot_take_le {F : List Fl} {k : Nat} : total (F.take k) ≤ total F := by
  unfold total
  conv => rhs; rw [← List.take_append_drop k F]
  rw [List.map_append, List.sum_append]
  omega

section
variable {w : World} {Y : Nat → Prop} {r : Nat} {F : List Fl} {A : Option Addr} {c : Nat}
set_option maxRecDepth 100000 in
set_option maxHeartbeats 8000000 in
theorem RAppend_is (n s : List UInt8) (E : Int) (hnl : n.length ≤ 140737488351232) (hsl : s.length ≤ 140737488351232) (hs : Sorted F) (hl : F.length ≤ 1000) (ht : ∀ f ∈ F, f.t.length ≤ 65536) (h : RkAt w Y r F A c) (hE : appE F n s = E) :
    Calls Try.prog 53 #[.pointer (some ⟨r, 0, none⟩), .string (str n), .string (str s)] w fun e w' => e = .returned (.int .i64 E) ∧ RThen Y w w' r (appF F n s) := by
  have HCt := Lib.hid (counts_is w Y r F A c h)
  have H := Lib.hid h
  have HE := Lib.hid hE
  have HS := Lib.hid hs
  have HTt := Lib.hid ht
  have hts := tot_le ht
  have c0 : w.cell? ⟨r, 0, none⟩ = some (.slice A F.length c) := h.box.cell 0
  cases hnb : nameB n with
  | false =>
    have HRn := Lib.hid (RName_is n false w hnl hnb)
    have hE1 : appE F n s = 1 := by unfold appE; rw [if_neg (by simp [hnb])]
    have HEE := Lib.hid (hE1.symm.trans hE)
    have HG : Hid (appF F n s = F) := Lib.hid (by unfold appF; rw [if_neg (by rw [hE1]; decide)])
    clear h hE hs ht hE1
    generalize str n = sn at HRn
    generalize str s = ss
    go_enter Try.func53, Try.ntmps53
    go_wp2_with fail
    refine HCt.out.mono ?_
    rintro e w1 ⟨rfl, rfl⟩
    go_wp2_with fail
    refine HRn.out.mono ?_
    rintro e w3 ⟨rfl, rfl⟩
    go_wp2_with fail
    go_ret
    exact ⟨by rw [← HEE.out]; rfl, by rw [HG.out]; exact rthen_at H.out (Chg.refl _ _)⟩
  | true =>
    have HRn := Lib.hid (RName_is n true w hnl hnb)
    have HFd := Lib.hid (find_is w Y r F A c n (findI F n) (by omega) h rfl)
    obtain ⟨I, hI⟩ : ∃ I, findI F n = I := ⟨_, rfl⟩
    have HI := Lib.hid hI
    rw [hI] at HFd
    have HNb := Lib.hid hnb
    have HSs : Hid ((str s).size = s.length) := Lib.hid (str_size _)
    have HPt := Lib.hid (put_is (w := w) (Y := Y) (r := r) (F := F) (A := A) (c := c) ⟨n, s, 0⟩ hl h)
    have HCat : Hid (∀ t : List UInt8, str (t ++ s) = str t ++ str s) := Lib.hid (fun t => by apply ByteArray.ext; simp [str])
    clear h hE hs ht hnb hI
    have HPt : Hid (Calls Try.prog 60 #[.pointer (some ⟨r, 0, none⟩), .agg #[.string (str n), .string (str s), .int .i64 0]] w fun e w' => e = .returned (.tuple #[]) ∧ RThen Y w w' r (put F ⟨n, s, 0⟩)) := HPt
    generalize str n = sn at HRn HFd HPt
    generalize str s = ss at HSs HPt HCat
    go_enter Try.func53, Try.ntmps53
    go_wp2_with fail
    refine HCt.out.mono ?_
    rintro e w1 ⟨rfl, rfl⟩
    go_wp2_with fail
    refine HRn.out.mono ?_
    rintro e w3 ⟨rfl, rfl⟩
    go_wp2_with fail
    refine HFd.out.mono ?_
    rintro e w2 ⟨rfl, rfl⟩
    clear HCt HRn HFd
    go_wp2_with fail
    obtain ⟨V, hV⟩ : ∃ V, V = w2 := ⟨_, rfl⟩
    subst hV
    go_loopw [7, 9] (fun all i wr => ∃ k : Nat, k ≤ F.length ∧ i = .int .i64 (k : Int) ∧ all = .int .i64 ((total (F.take k) : Nat) : Int) ∧ wr = V) (fun _ i _ => F.length - (RowKit.intOf i).toNat)
    case atStart => exact ⟨0, Nat.zero_le _, rfl, rfl, rfl⟩
    case round =>
      obtain ⟨k, hk, rfl, rfl, rfl⟩ := hrel
      by_cases hlt : k < F.length
      · have hkI : (k : Int) < (F.length : Int) := by omega
        obtain ⟨g, rfl, _, _, _, _⟩ := H.out.addr (by omega)
        obtain ⟨_, d1, _⟩ := H.out.at_ hlt
        have hsz : (str F[k].t).size = F[k].t.length := str_size _
        have htk := tot_take hlt
        have htl : total (F.take (k + 1)) ≤ total F := tot_take_le
        have hwr : IntKind.i64.wrap (((total (F.take k) : Nat) : Int) + ((str F[k].t).size : Int)) = ((total (F.take (k + 1)) : Nat) : Int) := by
          rw [hsz, IntWalk.i64_in _ ⟨by omega, by omega⟩]
          omega
        clear htk hsz
        generalize str F[k].t = st at d1 hwr
        go_wp2_with fail
        go_roundw
        case rel => exact ⟨k + 1, hlt, by go_num, by rfl, by trivial⟩
        case measure => simp [RowKit.intOf]; omega
      · have hkI : ¬ (k : Int) < (F.length : Int) := by omega
        obtain rfl : k = F.length := by omega
        clear hlt
        rw [List.take_length]
        have HTo := Lib.hid hts
        obtain ⟨T, hT⟩ : ∃ T, total F = T := ⟨_, rfl⟩
        have HT := Lib.hid hT
        rw [hT] at hts ⊢
        clear hT
        have hw2 : IntKind.i64.wrap ((1048576 : Int) - (T : Int)) = 1048576 - (T : Int) := IntWalk.i64_in _ ⟨by omega, by omega⟩
        rcases find_look (n := n) HS.out with ⟨i, hi, hn, hlk, hfi⟩ | ⟨hlk, hfi⟩
        · obtain rfl : I = (i : Int) := HI.out.symm.trans hfi
          have hiI : (i : Int) < (F.length : Int) := by omega
          have hi0 : ¬ (i : Int) < 0 := by omega
          have hi1 : (0 : Int) ≤ (i : Int) := by omega
          have htl := HTt.out F[i] (List.getElem_mem hi)
          obtain ⟨g, rfl, hY, hgl, hgr, hfz⟩ := H.out.addr (by omega)
          obtain ⟨_, d1, _⟩ := H.out.at_ hi
          have hsz : (str F[i].t).size = F[i].t.length := str_size _
          have hw1 : IntKind.i64.wrap ((65536 : Int) - ((str F[i].t).size : Int)) = 65536 - ((str F[i].t).size : Int) := IntWalk.i64_in _ ⟨by omega, by omega⟩
          have HFu : Hid (fullB F n s.length = !(decide (F[i].t.length + s.length ≤ 65536) && decide (s.length + T ≤ 1048576))) := Lib.hid (by unfold fullB; rw [hlk]; simp only [roomB]; rw [HT.out])
          by_cases p1 : (65536 : Int) - ((str F[i].t).size : Int) < (ss.size : Int)
          · have hss := HSs.out
            have hfu : fullB F n s.length = true := by
              rw [HFu.out, decide_eq_false (by omega)]; rfl
            have hE5 : appE F n s = 5 := by unfold appE; rw [if_pos HNb.out, if_pos hfu]
            have HEE := Lib.hid (hE5.symm.trans HE.out)
            have HG : Hid (appF F n s = F) := Lib.hid (by unfold appF; rw [if_neg (by rw [hE5]; decide)])
            clear hlk hfi hfu hE5 hss HFu hn hsz
            generalize str F[i].t = st at *
            go_wp2_with fail
            go_ret
            exact ⟨by rw [← HEE.out]; rfl, by rw [HG.out]; exact rthen_at H.out (Chg.refl _ _)⟩
          · by_cases p2 : (1048576 : Int) - (T : Int) < (ss.size : Int)
            · have hss := HSs.out
              have hfu : fullB F n s.length = true := by
                rw [HFu.out, decide_eq_false (p := s.length + T ≤ 1048576) (by omega), Bool.and_false]; rfl
              have hE5 : appE F n s = 5 := by unfold appE; rw [if_pos HNb.out, if_pos hfu]
              have HEE := Lib.hid (hE5.symm.trans HE.out)
              have HG : Hid (appF F n s = F) := Lib.hid (by unfold appF; rw [if_neg (by rw [hE5]; decide)])
              clear hlk hfi hfu hE5 hss HFu hn hsz
              generalize str F[i].t = st at *
              go_wp2_with fail
              go_ret
              exact ⟨by rw [← HEE.out]; rfl, by rw [HG.out]; exact rthen_at H.out (Chg.refl _ _)⟩
            · have hss := HSs.out
              have hfu : fullB F n s.length = false := by
                rw [HFu.out, decide_eq_true (by omega), decide_eq_true (by omega)]; rfl
              have hE0 : appE F n s = 0 := by unfold appE; rw [if_pos HNb.out, hfu]; rfl
              have HEE := Lib.hid (hE0.symm.trans HE.out)
              have HG : Hid (appF F n s = F.set i ⟨F[i].n, F[i].t ++ s, F[i].s⟩) := Lib.hid (by unfold appF; rw [if_pos hE0, hlk, ← hn]; exact at_edit HS.out hi _)
              have hd := H.out.drew
              have e1 := (hd.at_ hi).2.1
              have fz1 : wr.drew.frozen? ⟨g, i * 3 + 1, none⟩ = false := hfz _
              have c1 : wr.drew.cell? ⟨r, 0, none⟩ = some (.slice (some ⟨g, 0, none⟩) F.length c) := hd.box.cell 0
              have hN1 := hd.set hi (show 1 < 3 by omega) (.string (str (F[i].t ++ s))) ⟨F[i].n, F[i].t ++ s, F[i].s⟩ rfl
              have HC1 := Lib.hid ((chg_drew (Y := Y) (w := wr)).tr (chg_cell (j := i * 3 + 1) (v := .string (str (F[i].t ++ s))) hY))
              rw [HCat.out] at HC1 hN1
              have HN1 := Lib.hid hN1
              have hcat : ¬ (9223372036854775807 < (str F[i].t).size + ss.size) := by omega
              clear hN1 hd hlk hfi hn hfu hE0 hfz HPt hss HFu hsz
              generalize str F[i].t = st at d1 e1 HN1 HC1 hw1 p1 hcat
              go_wp2_with fail
              go_still_tail 17, (by kernel_rfl)
              change wpList _ _ _ _ _ wr.drew
              clear c0 d1
              generalize wr.drew = V2 at HN1 HC1 e1 fz1 c1 ⊢
              go_wp2_with fail
              go_ret
              exact ⟨by rw [← HEE.out]; rfl, by rw [HG.out]; exact rthen_at HN1.out HC1.out⟩
        · obtain rfl : I = -1 := HI.out.symm.trans hfi
          have hss := HSs.out
          have HFu : Hid (fullB F n s.length = (decide (64 ≤ F.length) || !(decide (0 + s.length ≤ 65536) && decide (s.length + T ≤ 1048576)))) := Lib.hid (by unfold fullB; rw [hlk]; simp only [roomB]; rw [HT.out])
          by_cases p1 : (65536 : Int) < (ss.size : Int)
          · have hss := HSs.out
            have hfu : fullB F n s.length = true := by
              rw [HFu.out, decide_eq_false (p := 0 + s.length ≤ 65536) (by omega), Bool.false_and]; simp
            have hE5 : appE F n s = 5 := by unfold appE; rw [if_pos HNb.out, if_pos hfu]
            have HEE := Lib.hid (hE5.symm.trans HE.out)
            have HG : Hid (appF F n s = F) := Lib.hid (by unfold appF; rw [if_neg (by rw [hE5]; decide)])
            clear hlk hfi hfu hE5 hss HFu
            go_wp2_with fail
            go_ret
            exact ⟨by rw [← HEE.out]; rfl, by rw [HG.out]; exact rthen_at H.out (Chg.refl _ _)⟩
          · by_cases p2 : (1048576 : Int) - (T : Int) < (ss.size : Int)
            · have hss := HSs.out
              have hfu : fullB F n s.length = true := by
                rw [HFu.out, decide_eq_false (p := s.length + T ≤ 1048576) (by omega), Bool.and_false]; simp
              have hE5 : appE F n s = 5 := by unfold appE; rw [if_pos HNb.out, if_pos hfu]
              have HEE := Lib.hid (hE5.symm.trans HE.out)
              have HG : Hid (appF F n s = F) := Lib.hid (by unfold appF; rw [if_neg (by rw [hE5]; decide)])
              clear hlk hfi hfu hE5 hss HFu
              go_wp2_with fail
              go_ret
              exact ⟨by rw [← HEE.out]; rfl, by rw [HG.out]; exact rthen_at H.out (Chg.refl _ _)⟩
            · by_cases p3 : (64 : Int) ≤ (F.length : Int)
              · have hss := HSs.out
                have hfu : fullB F n s.length = true := by
                  rw [HFu.out, decide_eq_true (by omega)]; rfl
                have hE5 : appE F n s = 5 := by unfold appE; rw [if_pos HNb.out, if_pos hfu]
                have HEE := Lib.hid (hE5.symm.trans HE.out)
                have HG : Hid (appF F n s = F) := Lib.hid (by unfold appF; rw [if_neg (by rw [hE5]; decide)])
                clear hlk hfi hfu hE5 hss HFu
                go_wp2_with fail
                go_ret
                exact ⟨by rw [← HEE.out]; rfl, by rw [HG.out]; exact rthen_at H.out (Chg.refl _ _)⟩
              · have hfu : fullB F n s.length = false := by
                  rw [HFu.out, decide_eq_false (by omega), decide_eq_true (by omega), decide_eq_true (by omega)]; rfl
                have hE0 : appE F n s = 0 := by unfold appE; rw [if_pos HNb.out, hfu]; rfl
                have HEE := Lib.hid (hE0.symm.trans HE.out)
                have HG : Hid (appF F n s = put F ⟨n, s, 0⟩) := Lib.hid (by unfold appF; rw [if_pos hE0, hlk])
                clear hlk hfi hfu hE0 hss HFu
                go_wp2_with fail
                refine HPt.out.mono ?_
                rintro e w5 ⟨rfl, hr⟩
                have HR := Lib.hid hr
                clear hr HPt
                go_wp2_with fail
                go_ret
                exact ⟨by rw [← HEE.out]; rfl, by rw [HG.out]; exact HR.out⟩
end
end Go.Proofs.Ytgimecgdfcckbaa.Dsk
