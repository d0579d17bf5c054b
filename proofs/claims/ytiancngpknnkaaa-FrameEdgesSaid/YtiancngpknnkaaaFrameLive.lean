/- Package frame: the packets of what comes to a framer that lives. -/
import Derived.Test.YtiancngpknnkaaaFrameFeed
namespace Go.Proofs.Ytiancngpknnkaaa
open Go.RowKit Go.Lib Prp Pkt Vbi

def stLen : Value → Nat
  | .string s => s.size
  | _ => 0
set_option maxRecDepth 100000 in
set_option maxHeartbeats 32000000 in
theorem Feed_live (rest : ByteArray) (max : Int) (s : ByteArray) (L : List Pk) (x : ByteArray) (e : Int) (dd : Bool) (w : World) (hs : rest.size + s.size ≤ 268435456) (hb : mayF rest max false = true) (hR : feedS max (rest ++ s) = (L, x, e)) (hdd : dd = decide (e ≠ 0)) :
    Calls Try.prog 9 #[.agg (frArr rest max false), .string s] w (GivesFeed x max dd L e w) := by
  have hb1 := Box.new w 23 (frArr rest max false)
  have ha1 := (Below.refl w.heap.size w).alloc (Nat.le_refl _) (.cells (frArr rest max false) 23)
  obtain ⟨W1, hW1⟩ : ∃ W1, w.alloc (.cells (frArr rest max false) 23) = W1 := ⟨_, rfl⟩
  have hs1 : W1.heap.size = w.heap.size + 1 := by rw [← hW1, World.size_alloc]
  rw [hW1] at hb1 ha1
  have hb2 := Box.new W1 23 (frArr ⟨#[]⟩ 0 false)
  have ha2 := (Below.refl W1.heap.size W1).alloc (Nat.le_refl _) (.cells (frArr ⟨#[]⟩ 0 false) 23)
  obtain ⟨W2, hW2⟩ : ∃ W2, W1.alloc (.cells (frArr ⟨#[]⟩ 0 false) 23) = W2 := ⟨_, rfl⟩
  have hs2 : W2.heap.size = w.heap.size + 2 := by rw [← hW2, World.size_alloc, hs1]
  rw [hW2] at hb2 ha2
  rw [hs1] at hb2
  obtain ⟨g, hg⟩ : ∃ g, w.heap.size = g := ⟨_, rfl⟩
  rw [hg] at hb1 hb2 hs2
  have hbx := hb1.below (ha2.mono (by omega))
  have hld := load_fr hbx
  have HF2 := Lib.hid (FeedIn.mk (w := w) (g := g) (rest := rest) (max := max) (v := .slice none 0 0) (L := []) (W := W2) ⟨hbx, hb2, OwnPks.nil _ _, ha1.trans (ha2.mono (by omega)), hg, by omega⟩)
  have HCK := Lib.hid (FrCheck_is rest max false true W2 (by omega) hb)
  have HG := Lib.hid hg
  have HDD := Lib.hid hdd
  clear hdd
  have HLN : Hid (L.length ≤ 134217728 ∧ (rest ++ s).size ≤ 268435456) := by
    have h1 := feed_len max (rest ++ s)
    rw [hR] at h1
    have h2 : (rest ++ s).size = rest.size + s.size := ByteArray.size_append
    have h1' : 2 * L.length + x.size ≤ (rest ++ s).size := h1
    exact ⟨by omega, by omega⟩
  have hadd : ¬ 9223372036854775807 < rest.size + s.size := by omega
  unfold frArr at hW1 hW2 ⊢
  have HW1 := Lib.hid hW1
  have HW2 := Lib.hid hW2
  have HR := Lib.hid hR
  clear hb1 ha1 hb2 ha2 hs1 hs2 hg hW1 hW2 hs hb hbx hR
  go_enter Try.func9, Try.ntmps9
  go_upto_region 1 with fail
  rw [HW1.out, HW2.out, HG.out]
  generalize Value.agg _ = v0
  clear HW1 HW2
  go_wp2_with (refine wpList_load_any (by rfl) 23 (.tmp 2) rfl g 0 rfl _ hld ?_)
  refine HCK.out.mono ?_
  rintro e0 w3 ⟨rfl, hb3⟩
  have HF3 := Lib.hid (HF2.out.below hb3)
  clear hb3 hld HF2 HCK
  have c2 : w3.cell? ⟨g, 2, none⟩ = some (.bool false) := HF3.out.out.1.cell 2
  have c0 : w3.cell? ⟨g, 0, none⟩ = some (.string rest) := HF3.out.out.1.cell 0
  go_wp2_with fail
  clear c0 c2
  go_loopw [5, 7] (fun v r wr => ∃ (l : List Pk) (y : ByteArray) (A : Option Addr) (c : Nat), v = .slice A l.length c ∧ r = .string y ∧ FeedIn w g rest max (.slice A l.length c) l wr ∧ L = l ++ (feedS max y).1 ∧ (x, e) = (feedS max y).2 ∧ y.size ≤ 268435456) (fun _ r _ => stLen r)
  case atStart => exact ⟨[], rest ++ s, none, 0, rfl, rfl, HF3.out, by rw [HR.out]; rfl, by rw [HR.out], HLN.out.2⟩
  case round =>
    obtain ⟨l, y, A, c, rfl, rfl, hfi, hL, hxe, hy⟩ := hrel
    have HF := Lib.hid hfi
    have HC0 := first_is y max wr hy
    have c1 : wr.cell? ⟨g, 1, none⟩ = some (.int .i64 max) := hfi.out.1.cell 1
    have HLL := Lib.hid hL
    have HXE := Lib.hid hxe
    have HY := Lib.hid hy
    have a1 := as_wh
    have a2 := as_no_wh
    have a3 := as_errno
    clear HF3 HR hfi hL hxe hy
    cases hst : stepS max y with
    | one p n =>
      have hn := step_one hst
      rw [hst] at HC0
      have HC := Lib.hid HC0
      have HL2 : Hid (L = (l ++ [p]) ++ (feedS max (y.extract n y.size)).1) := by show _ = _; rw [HLL.out, feedS_one hst, List.append_assoc]; rfl
      have HX2 : Hid ((x, e) = (feedS max (y.extract n y.size)).2) := by show _ = _; rw [HXE.out, feedS_one hst]
      have HN := Lib.hid hn
      clear HC0 hst hn HLL HXE
      go_wp2_with fail
      refine HC.out.mono ?_
      rintro r w1 ⟨a, rfl, q1, q2, q3, q4⟩
      have HF1 := Lib.hid (HF.out.below q4)
      have hvl := HF.out.out.2.2.1.lt
      have hbz := HF.out.out.2.2.2.2.2
      have hmb := new_below w1 (whArr (zp 0) za 0) (whArr p a (n : Int)) 52
      have hmx := new_box w1 (whArr (zp 0) za 0) (whArr p a (n : Int)) 52
      have hbn := Box.new w1 52 (whArr (zp 0) za 0)
      obtain ⟨W4, hW4⟩ : ∃ W, w1.alloc (.cells (whArr (zp 0) za 0) 52) = W := ⟨_, rfl⟩
      rw [hW4] at hmb hmx hbn
      obtain ⟨k9, hk9⟩ : ∃ k, w1.heap.size = k := ⟨_, rfl⟩
      have HF2 := Lib.hid (HF1.out.below hmb)
      have HP2 := Lib.hid ((q1.below hmb).mono hmb.size)
      have hq4 := q4.size
      have HO := Lib.hid (show ∀ gg, (Value.slice A l.length c).ownBlock = some gg → POff gg p a from fun gg hh => POff.of_new q3 (hvl gg hh).2)
      have HNW := Lib.hid (q3.mono (B' := g + 2) hbz)
      have HV := Lib.hid (show some k9 ≠ (Value.slice A l.length c).ownBlock from fun hh => by have := (hvl k9 hh.symm).2; omega)
      have HCP := Lib.hid q2
      rw [hk9] at hmx hbn HF2 HP2
      have HMX := Lib.hid hmx
      have HBN := Lib.hid hbn
      simp only [whArr, zp, za, zw, List.length_nil] at hW4
      have HW4 := Lib.hid hW4
      clear q1 q2 q3 q4 hmb hmx hbn hW4 hvl hbz hq4 HF HF1 HC c1
      go_upto_region 9 with (rw [HW4.out]; refine wpList_store_whole rfl 52 (.tmp 9) (.tmp 31) rfl k9 (whArr p a (n : Int)) rfl rfl (whArr (zp 0) za 0) HBN.out info_wh rfl (one_wh _ _ _) ?_; simp only [Act.put])
      clear hk9 HW4 HBN a1 a2 a3
      generalize World.setRow _ _ _ = w5 at HF2 HP2 HMX ⊢
      have hld := load_wh HMX.out
      have c25 : w5.cell? ⟨k9, 25, none⟩ = some (.int .i64 (n : Int)) := HMX.out.cell 25
      have halc := (Below.refl w5.heap.size w5).alloc (Nat.le_refl _) (.cells (pkArr p a) 45)
      have HRW := Lib.hid (rows_one (w := w5.alloc (.cells (pkArr p a) 45)) (base := g + 2) (k := w5.heap.size) (v := .slice A l.length c) ((HP2.out.below halc).mono halc.size) HCP.out HNW.out HO.out (Box.new w5 45 (pkArr p a)))
      have HB5 := Lib.hid (HMX.out.below halc)
      have HZ := Lib.hid halc.size
      clear halc HMX HP2 HCP HNW HO
      go_wp2_with (first | (refine wpList_load_any (by rfl) 45 (.tmp 35) rfl k9 0 rfl _ hld ?_) | (refine wpList_one_pk rfl (.tmp 36) rfl p a rfl ?_) | (at_builtin; refine wpList_append_pks rfl (.tmp 34) (.tmp 37) rfl (base := g + 2) (c := 1) (v := .slice A l.length c) (l := l) (m := [p]) (A := some ⟨w5.heap.size, 0, none⟩) (bs := [a]) rfl rfl ?c1 HRW.out.1 ?c3 ?c4 ?c5 ?_))
      case c1 => exact HF2.out.out.2.2.1.alloc _
      case c3 => exact .inr ⟨_, rfl, HRW.out.2⟩
      case c4 => exact Nat.le_trans HF2.out.out.2.2.2.2.2 HZ.out
      case c5 =>
        have h1 := congrArg List.length HL2.out
        have h2 := HLN.out.1
        simp only [List.length_append, List.length_cons, List.length_nil] at h1 ⊢
        omega
      intro v' w6 ho hbl hgr
      obtain ⟨A', c', rfl, _⟩ := ho.slice
      have HF6 := Lib.hid ((HF2.out.alloc _).grown hbl ho)
      have c25 : w6.cell? ⟨k9, 25, none⟩ = some (.int .i64 (n : Int)) := (box_grown HB5.out hgr HV.out).cell 25
      have hn0 : (0 : Int) ≤ (n : Int) := by omega
      have hn1 : (n : Int) ≤ (y.size : Int) := by have := HN.out.2.1; omega
      clear ho hbl hgr hld HF2 HRW HB5 HZ HV
      go_wp2_with fail
      go_roundw
      case rel => exact ⟨l ++ [p], y.extract n y.size, A', c', rfl, rfl, HF6.out, HL2.out, HX2.out, by have := HY.out; rw [ByteArray.size_extract]; omega⟩
      case measure => show (y.extract n y.size).size < y.size; have := HN.out; rw [ByteArray.size_extract]; omega
    | wait =>
      rw [hst] at HC0
      have HC := Lib.hid HC0
      have HRES : Hid (L = l ∧ x = y ∧ e = 0) := by
        have h1 := HLL.out
        have h2 := HXE.out
        rw [feedS_wait hst] at h1 h2
        injection h2 with h2 h3
        exact ⟨by rw [h1]; exact List.append_nil _, h2, h3⟩
      clear HC0 hst HLL HXE
      go_wp2_with fail
      refine HC.out.mono ?_
      rintro r w1 ⟨rfl, q4⟩
      have HF1 := Lib.hid (HF.out.below q4)
      have hmb := new_below w1 (whArr (zp 0) za 0) (whArr (zp 0) za 0) 52
      have hbn := Box.new w1 52 (whArr (zp 0) za 0)
      obtain ⟨W4, hW4⟩ : ∃ W, w1.alloc (.cells (whArr (zp 0) za 0) 52) = W := ⟨_, rfl⟩
      rw [hW4] at hmb hbn
      have HF2 := Lib.hid (HF1.out.below hmb)
      obtain ⟨k9, hk9⟩ : ∃ k, w1.heap.size = k := ⟨_, rfl⟩
      rw [hk9] at hbn HF2
      have HBN := Lib.hid hbn
      simp only [whArr, zp, za, zw, List.length_nil] at hW4
      have HW4 := Lib.hid hW4
      clear q4 hmb hbn hW4 HF HF1 HC c1
      go_upto_region 9 with (rw [HW4.out]; refine wpList_store_whole rfl 52 (.tmp 9) (.tmp 31) rfl k9 (whArr (zp 0) za 0) rfl rfl (whArr (zp 0) za 0) HBN.out info_wh rfl (one_wh _ _ _) ?_; simp only [Act.put])
      clear hk9 HW4 HBN
      generalize World.setRow _ _ _ = w5 at HF2 ⊢
      have HXY : Hid (dd = false ∧ x = y ∧ L = l ∧ e = 0) := by
        obtain ⟨h1, h2, h3⟩ := HRES.out
        exact ⟨by rw [HDD.out, h3]; rfl, h2, h1, h3⟩
      have HCL := Lib.hid (fun W => Clone_same y W (by have := HY.out; omega))
      clear HRES
      go_upto_region 14 with fail
      have hHeld : FeedIn w g rest max (.slice A l.length c) l (World.drew w5) := HF2.out.below (below_drewN (Below.refl _ _) 1)
      clear HF2
      refine wp_region_held_drew (S := fun W => ∃ cs : Array Value, cs.size = 3 ∧ Box W g (frArr rest max false) ∧ Box W (g + 1) cs) (by kernel_rfl) ⟨_, rfl, hHeld.out.1, hHeld.out.2.1⟩ (fun hBox => ?_)
      generalize World.drew w5 = Wd at hHeld hBox ⊢
      refine take_op 0 47 ?v0 rfl rfl (by kernel_rfl) (fun _ _ _ h => h) (by rfl) hBox (fun w' hS' => ?hv0) ?hh0
      case hv0 => (go_simp; try with_reducible rfl)
      simp only [Act.put, List.setIfInBounds_toArray, List.set_cons_zero, List.set_cons_succ]
      refine take_op 2 49 ?v2 rfl rfl (by kernel_rfl) (fun _ _ _ h => h) (by rfl) hBox (fun w' hS' => ?hv2) ?hh2
      case hv2 => (go_simp; try with_reducible rfl)
      simp only [Act.put, List.setIfInBounds_toArray, List.set_cons_zero, List.set_cons_succ]
      refine take_op 3 50 ?v3 rfl rfl (by kernel_rfl) (fun _ _ _ h => h) (by rfl) hBox (fun w' hS' => ?hv3) ?hh3
      case hv3 => (have k : w'.cell? ⟨g, 1, none⟩ = some (.int .i64 max) := hS'.choose_spec.2.1.cell 1; go_simp; try with_reducible rfl)
      simp only [Act.put, List.setIfInBounds_toArray, List.set_cons_zero, List.set_cons_succ]
      refine take_op 5 52 ?v5 rfl rfl (by kernel_rfl) (fun _ _ _ h => h) (by rfl) hBox (fun w' hS' => ?hv5) ?hh5
      case hv5 => (go_simp; try with_reducible rfl)
      simp only [Act.put, List.setIfInBounds_toArray, List.set_cons_zero, List.set_cons_succ]
      refine only_op 1 rfl (by kernel_rfl) (by rfl) (wp_call_ex 48 16 #[.string y] _ rfl (by go_simp) (HCL.out Wd) ?_)
      rintro r w7 ⟨rfl, q3⟩
      obtain ⟨cs, hcs, hb1, hb2⟩ := hBox
      have hBox : ∃ cs : Array Value, cs.size = 3 ∧ Box w7 g (frArr rest max false) ∧ Box w7 (g + 1) cs := ⟨cs, hcs, hb1.below q3, hb2.below q3⟩
      have hb7 := hb2.below q3
      have hHeld := hHeld.below q3
      refine ⟨_, rfl, hBox, ?_⟩
      simp only [Act.put, List.setIfInBounds_toArray, List.set_cons_zero, List.set_cons_succ]
      refine take_op 4 51 (.agg (frArr y max false)) rfl rfl (by kernel_rfl) (fun _ _ _ h => h) (by rfl) hBox (fun w' hS' => ?hv4) ?hh4
      case hv4 => (go_simp; try rfl)
      simp only [Act.put, List.setIfInBounds_toArray, List.set_cons_zero, List.set_cons_succ]
      obtain ⟨T, hT⟩ := hb7
      have hrow := Bar.row (g + 1) w7 (frArr y max false)
      have hbx4 : Box (w7.setRow (g + 1) (frArr y max false)) (g + 1) (frArr y max false) := hHeld.out.2.1.row _
      have hBox2 : ∃ cs : Array Value, cs.size = 3 ∧ Box (w7.setRow (g + 1) (frArr y max false)) g (frArr rest max false) ∧ Box (w7.setRow (g + 1) (frArr y max false)) (g + 1) cs := ⟨_, rfl, hrow.box hHeld.out.1 (by omega), hbx4⟩
      refine only_op 6 rfl (by kernel_rfl) (by rfl) (wp_store_row 23 (.tmp 4) (.tmp 51) rfl (g + 1) (frArr y max false) rfl rfl T cs hT info_fr hcs (one_fr _ _ _) ⟨hBox2, ?_⟩)
      simp only [Act.put]
      refine take_op 7 5 ?v7 rfl rfl (by kernel_rfl) (fun _ _ _ h => h) (by rfl) hBox2 (fun w' hS' => ?hv7) ?hh7
      case hv7 => (go_simp; try with_reducible rfl)
      simp only [Act.put, List.setIfInBounds_toArray, List.set_cons_zero, List.set_cons_succ]
      refine take_op 8 6 ?v8 rfl rfl (by kernel_rfl) (fun _ _ _ h => h) (by rfl) hBox2 (fun w' hS' => ?hv8) ?hh8
      case hv8 => (go_simp; try with_reducible rfl)
      simp only [Act.put, List.setIfInBounds_toArray]
      refine wpAnyH_done (by kernel_rfl) ?_ _
      have HB4 := Lib.hid hbx4
      have HFN := Lib.hid (show OwnPks (w7.setRow (g + 1) (frArr y max false)) w.heap.size (.slice A l.length c) l ∧ Below w.heap.size w (w7.setRow (g + 1) (frArr y max false)) from ⟨(hHeld.out.2.2.1.bar hrow (by omega)).mono (by have := HG.out; omega), hrow.below hHeld.out.2.2.2.1 (by have := HG.out; omega) hHeld.out.2.2.2.1.size⟩)
      clear hBox hBox2 hbx4 hrow hT hcs hb1 hb2 hHeld q3 HCL
      go_wp2_with fail
      obtain ⟨h1, h2, h3, h4⟩ := HXY.out
      rw [h1, h2, h3, h4]
      refine bodyPost_ret (results_fr3 Try.results9 rfl HB4.out rfl rfl) rfl ⟨A, c, rfl, HFN.out.1, HFN.out.2⟩
    | dead E =>
      rw [hst] at HC0
      have HC := Lib.hid HC0
      have hd := step_dead hst
      have HRES : Hid (L = l ∧ x = ⟨#[]⟩ ∧ e = E) := by
        have h1 := HLL.out
        have h2 := HXE.out
        rw [feedS_dead hst] at h1 h2
        injection h2 with h2 h3
        exact ⟨by rw [h1]; exact List.append_nil _, h2, h3⟩
      have hE7 : (E == 7) = false := ne_false hd.2.2
      have HE0 := Lib.hid hd.2.1
      clear HC0 hst HLL HXE hd
      go_wp2_with fail
      refine HC.out.mono ?_
      rintro r w1 ⟨rfl, q4⟩
      have HF1 := Lib.hid (HF.out.below q4)
      have hmb := new_below w1 (whArr (zp 0) za 0) (whArr (zp 0) za 0) 52
      have hbn := Box.new w1 52 (whArr (zp 0) za 0)
      obtain ⟨W4, hW4⟩ : ∃ W, w1.alloc (.cells (whArr (zp 0) za 0) 52) = W := ⟨_, rfl⟩
      rw [hW4] at hmb hbn
      have HF2 := Lib.hid (HF1.out.below hmb)
      obtain ⟨k9, hk9⟩ : ∃ k, w1.heap.size = k := ⟨_, rfl⟩
      rw [hk9] at hbn HF2
      have HBN := Lib.hid hbn
      simp only [whArr, zp, za, zw, List.length_nil] at hW4
      have HW4 := Lib.hid hW4
      clear q4 hmb hbn hW4 HF HF1 HC c1
      go_upto_region 9 with (rw [HW4.out]; refine wpList_store_whole rfl 52 (.tmp 9) (.tmp 31) rfl k9 (whArr (zp 0) za 0) rfl rfl (whArr (zp 0) za 0) HBN.out info_wh rfl (one_wh _ _ _) ?_; simp only [Act.put])
      clear hk9 HW4 HBN
      generalize World.setRow _ _ _ = w5 at HF2 ⊢
      have c1 : w5.cell? ⟨g, 1, none⟩ = some (.int .i64 max) := HF2.out.out.1.cell 1
      have HB4 := Lib.hid HF2.out.out.2.1
      have HRR : Hid (dd = true ∧ x = ⟨#[]⟩ ∧ L = l ∧ e = E) := by
        obtain ⟨h1, h2, h3⟩ := HRES.out
        exact ⟨by rw [HDD.out, h3]; exact decide_eq_true HE0.out, h2, h1, h3⟩
      go_wp2_with (refine wpList_store_whole rfl 23 (.tmp 4) (.tmp 55) rfl (g + 1) (frArr ⟨#[]⟩ max true) rfl rfl (frArr ⟨#[]⟩ 0 false) HB4.out info_fr rfl (one_fr _ _ _) ?_; simp only [Act.put])
      have hrow := Bar.row (g + 1) w5 (frArr ⟨#[]⟩ max true)
      obtain ⟨h1, h2, h3, h4⟩ := HRR.out
      rw [h1, h2, h3, h4]
      refine bodyPost_ret (results_fr3 Try.results9 rfl (HB4.out.row (frArr ⟨#[]⟩ max true)) rfl rfl) rfl ⟨A, c, rfl, ((HF2.out.out.2.2.1.bar hrow (by omega)).mono (by have := HG.out; omega)), hrow.below HF2.out.out.2.2.2.1 (by have := HG.out; omega) HF2.out.out.2.2.2.1.size⟩
end Go.Proofs.Ytiancngpknnkaaa
