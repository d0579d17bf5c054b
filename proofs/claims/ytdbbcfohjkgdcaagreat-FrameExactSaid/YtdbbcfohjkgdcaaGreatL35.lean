/- The sixth layer's statements: whatever comes, part by part, each call tells the framer, the packets and the error that the document says, or is refused. -/
import Derived.Test.YtdbbcfohjkgdcaaGreatL00
import Derived.Test.YtdbbcfohjkgdcaaGreatL34
set_option maxRecDepth 100000
set_option maxHeartbeats 64000000
namespace Go.Proofs.YtdbbcfohjkgdcaaGreat
open Go.RowKit Go.Lib Prp Pkt Vbi
theorem load_scfr {W : World} {g : Nat} {rest : ByteArray} {max : Int} {dead : Bool} {A : Option Addr} {l : List ByteArray} {c : Nat} (h : Box W g (scArr rest max dead A l c)) : (loadVar 46 ⟨g, 0, none⟩).run Tryz.prog W = .ok (.agg (frArr rest max dead)) W := by
 refine run_loadVar_mid W g 0 46 (frArr rest max dead).toList _ (fun j v hv => ?_) Tryz.underlying46 rfl info_fr
 rw [Nat.zero_add, h.cell]
 match j, hv with
 | 0, hv => exact hv
 | 1, hv => exact hv
 | 2, hv => exact hv
theorem may_max {r : ByteArray} {max : Int} {d : Bool} (h : mayF r max d = true) : 2 ≤ max ∧ max ≤ 8192 := by
 by_cases hm : 2 ≤ max ∧ max ≤ 8192
 ·exact hm
 ·rw [mayF_no hm] at h
  cases h
theorem exact_at {r s : ByteArray} {max : Int} {d : Bool} (hb : mayF r max d = true) (hz : r.size + s.size ≤ 268435456) : ∃ (N : List Pk) (x : ByteArray) (d' : Bool) (e : Int),
  (∀ W : World, Calls Tryz.prog 20 #[.agg (frArr r max d), .string s] W (GivesFeed x max d' N e W)) ∧ (∀ W : World, Calls Tryz.prog 21 #[.agg (frArr r max d), .string s] W (GivesFeed x max d' N e W)) ∧
  mayF x max d' = true ∧ (∀ p ∈ N, PkLen p) ∧ N.length ≤ 134217728 ∧ x.size ≤ r.size + s.size := by
 have hm := may_max hb
 cases d with
 | true => exact ⟨[], r, true, 0, fun W => Feed_dead r max s W (by omega) hb, fun W => RFeed_dead r max s W, hb, (fun p hp => absurd hp List.not_mem_nil), Nat.zero_le _, Nat.le_add_right _ _⟩
 | false =>
  obtain ⟨N, x, e, hE⟩ : ∃ N x e, feedS max (r ++ s) = (N, x, e) := ⟨_, _, _, rfl⟩
  have hr := feed_rest max (r ++ s)
  have hl := feed_len max (r ++ s)
  have hf := feed_few max (r ++ s)
  rw [hE] at hr hl hf
  obtain ⟨h1, h2, _, h4⟩ := hr
  have h4 : x.size ≤ (r ++ s).size := h4
  have hl : 2 * N.length + x.size ≤ (r ++ s).size := hl
  rw [ByteArray.size_append] at h4 hl
  refine ⟨N, x, decide (e ≠ 0), e, fun W => Feed_live r max s N x e _ W hz hb hE rfl, fun W => RFeed_live r max s N x e _ W hz hE rfl, ?_, hf, by omega, h4⟩
  by_cases h0 : e = 0
  ·subst h0
   exact may_wait hm (h1 rfl)
  ·have hx : x = ⟨#[]⟩ := h2 h0
   subst hx
   rw [decide_eq_true h0]
   exact may_dead hm
@[irreducible] def ExIn (w : World) (g gf : Nat) (sc : Array Value) (A : Option Addr) (l : List ByteArray) (fr : Array Value) (W : World) : Prop :=
 Below w.heap.size w W ∧ Box W g sc ∧ StrsAt W W.heap.size A l ∧ Box W gf fr ∧ w.heap.size ≤ gf ∧ g < gf
section
variable {w W W' : World} {g gf : Nat} {sc fr fr' : Array Value} {A : Option Addr} {l : List ByteArray}
theorem ExIn.mk (h : Below w.heap.size w W ∧ Box W g sc ∧ StrsAt W W.heap.size A l ∧ Box W gf fr ∧ w.heap.size ≤ gf ∧ g < gf) : ExIn w g gf sc A l fr W := by unfold ExIn; exact h
theorem ExIn.out (h : ExIn w g gf sc A l fr W) : Below w.heap.size w W ∧ Box W g sc ∧ StrsAt W W.heap.size A l ∧ Box W gf fr ∧ w.heap.size ≤ gf ∧ g < gf := by unfold ExIn at h; exact h
theorem ExIn.below (h : ExIn w g gf sc A l fr W) (hb : Below W.heap.size W W') : ExIn w g gf sc A l fr W' := by
 obtain ⟨h1, h2, h3, h4, h5, h6⟩ := h.out
 exact .mk ⟨h1.trans (hb.mono h1.size), h2.below hb, (h3.below hb).mono hb.size, h4.below hb, h5, h6⟩
theorem ExIn.row (h : ExIn w g gf sc A l fr W) (hA : ∀ a, A = some a → a.block < gf) : ExIn w g gf sc A l fr' (W.setRow gf fr') := by
 obtain ⟨h1, h2, h3, h4, h5, h6⟩ := h.out
 have hrow := Bar.row gf W fr'
 refine .mk ⟨hrow.below h1 h5 h1.size, hrow.box h2 (by omega), ?_, h4.row fr', h5, h6⟩
 rcases h3 with h3 | ⟨b, o, k1, k2, k3⟩
 ·exact .inl h3
 ·have hne : b < gf := hA _ k1
  exact .inr ⟨b, o, k1, Nat.lt_of_lt_of_le k2 hrow.size, fun j hj => (World.cell?_of_block (hrow.block b k2 (by omega))).trans (k3 j hj)⟩
end
def ExS (gf g b ix : Nat) (fr sc : Array Value) (s : ByteArray) (W : World) : Prop := Box W gf fr ∧ Box W g sc ∧ W.cell? ⟨b, ix, none⟩ = some (.string s) ∧ b < W.heap.size
theorem ExS.below {gf g b ix : Nat} {fr sc : Array Value} {s : ByteArray} {W W' : World} (h : ExS gf g b ix fr sc s W) (hb : Below W.heap.size W W') : ExS gf g b ix fr sc s W' :=
 ⟨h.1.below hb, h.2.1.below hb, (hb.cell (p := ⟨b, ix, none⟩) h.2.2.2).trans h.2.2.1, Nat.lt_of_lt_of_le h.2.2.2 hb.size⟩
theorem FrameExact_any (rest : ByteArray) (max : Int) (dead : Bool) (A : Option Addr) (l : List ByteArray) (c : Nat) (w : World) (h : StrsAt w w.heap.size A l) (hf : ScFit rest max l c) :
  Calls Tryz.prog 5 #[.agg (scArr rest max dead A l c)] w fun e w' => e = .returned (.bool true) ∧ Below w.heap.size w w' := by
 have hAb : ∀ a, A = some a → l ≠ [] → a.block < w.heap.size := fun a ha hn => by
  rcases h with h | ⟨b, o, k1, k2, _⟩
  ·exact absurd h hn
  ·rw [k1] at ha
   injection ha with ha
   rw [← ha]
   exact k2
 have HAB := Lib.hid hAb
 have hb0 := Box.new w 49 (scArr rest max dead A l c)
 have ha := (Below.refl w.heap.size w).alloc (Nat.le_refl _) (.cells (scArr rest max dead A l c) 49)
 obtain ⟨W1, hW⟩ : ∃ W1, w.alloc (.cells (scArr rest max dead A l c) 49) = W1 := ⟨_, rfl⟩
 rw [hW] at hb0 ha
 have HV := Lib.hid (Heavy6_is rest max dead A l c W1 ((h.below ha).mono ha.size) hf)
 have HSA := Lib.hid ((h.below ha).mono ha.size)
 have HA := Lib.hid ha
 obtain ⟨g, hg⟩ : ∃ g, w.heap.size = g := ⟨_, rfl⟩
 rw [hg] at hb0
 have HG := Lib.hid hg
 have HB0 := Lib.hid hb0
 have HF := Lib.hid hf
 have hld := load_sc hb0
 unfold scArr at hW ⊢
 have HW := Lib.hid hW
 clear hW hb0 ha hg h hf hAb
 go_enter Tryz.func5, Tryz.ntmps5
 go_upto_region 1 with fail
 rw [HW.out, HG.out]
 generalize Value.agg _ = v0
 clear HW
 go_wp2_with (refine wpList_load_any (by rfl) 49 (.tmp 1) rfl g 0 rfl _ hld ?_)
 refine HV.out.mono ?_
 rintro e w2 ⟨b, rfl, hbz, hb2⟩
 have HX2 := Lib.hid (HA.out.trans (hb2.mono HA.out.size))
 have HB2 := Lib.hid (HB0.out.below hb2)
 have HS2 := Lib.hid ((HSA.out.below hb2).mono hb2.size)
 clear hb2 hld HV HB0 HSA
 cases b with
 | true =>
  go_wp2_with fail
  go_ret
  exact ⟨rfl, HX2.out⟩
 | false =>
  obtain ⟨hz1, hz2⟩ := hbz rfl
  have HZ2 := Lib.hid hz2
  have hldf := load_scfr HB2.out
  have hmb := new_below w2 (frArr ⟨#[]⟩ 0 false) (frArr rest max dead) 46
  have hmx := new_box w2 (frArr ⟨#[]⟩ 0 false) (frArr rest max dead) 46
  have hbn := Box.new w2 46 (frArr ⟨#[]⟩ 0 false)
  have HI0 := Lib.hid (ExIn.mk (w := w) (g := g) (gf := w2.heap.size) (sc := scArr rest max dead A l c) (A := A) (l := l) (fr := frArr rest max dead) ⟨HX2.out.trans (hmb.mono HX2.out.size), HB2.out.below hmb, (HS2.out.below hmb).mono hmb.size, hmx, HX2.out.size, HB2.out.lt⟩)
  obtain ⟨W4, hW⟩ : ∃ W, w2.alloc (.cells (frArr ⟨#[]⟩ 0 false) 46) = W := ⟨_, rfl⟩
  rw [hW] at HI0 hbn
  obtain ⟨gf, hgf⟩ : ∃ k, w2.heap.size = k := ⟨_, rfl⟩
  rw [hgf] at HI0 hbn
  have HBN := Lib.hid hbn
  have HGF : Hid (w.heap.size ≤ gf) := HI0.out.out.2.2.2.2.1
  unfold frArr at hW
  have HW := Lib.hid hW
  clear hmb hmx hbn hW hz2 hbz HX2 HB2 HS2
  go_upto_region 4 with (first | (refine wpList_load_any (by rfl) 46 (.tmp 15) rfl g 0 rfl _ hldf ?_) | (rw [HW.out]; refine wpList_store_whole rfl 46 (.tmp 3) (.tmp 16) rfl gf (frArr rest max dead) rfl rfl (frArr ⟨#[]⟩ 0 false) HBN.out info_fr rfl (one_fr _ _ _) ?_; simp only [Act.put]))
  clear hgf HW HBN hldf
  generalize World.setRow _ _ _ = w5 at HI0 ⊢
  go_wp2_with fail
  go_loopw [4] (fun i wr => ∃ (k : Nat) (r : ByteArray) (d : Bool), k ≤ l.length ∧ k ≤ 10 ∧ i = .int .i64 (k : Int) ∧ r.size ≤ 20000 * (k + 1) ∧ ExIn w g gf (scArr rest max dead A l c) A l (frArr r max d) wr) (fun i _ => 10 - (RowKit.intOf i).toNat)
  case atStart => exact ⟨0, rest, dead, Nat.zero_le _, Nat.zero_le _, rfl, by omega, HI0.out⟩
  case round =>
   obtain ⟨k, r, d, hk1, hk2, rfl, hrz, hin⟩ := hrel
   have HI := Lib.hid hin
   have c3 : wr.cell? ⟨g, 3, none⟩ = some (.slice A l.length c) := hin.out.2.1.cell 3
   clear hin HI0
   by_cases hgo : k < l.length ∧ k < 10
   ·obtain ⟨h1, h2⟩ := hgo
    obtain ⟨b, o, rfl, hbb, hcell⟩ := HI.out.out.2.2.1.some_ (by omega)
    have hc := hcell k h1
    have hx := HZ2.out l[k] (List.getElem_mem h1)
    have HABX := Lib.hid (HAB.out ⟨b, o, none⟩ rfl (fun e => by rw [e] at h1; simp at h1))
    obtain ⟨s, hss⟩ : ∃ x, l[k] = x := ⟨_, rfl⟩
    rw [hss] at hc hx
    have HSC := Lib.hid hc
    have HSB := Lib.hid hbb
    have hkI : (k : Int) < (l.length : Int) := by omega
    have hk10 : (k : Int) < 10 := by omega
    have hk0 : (0 : Int) ≤ (k : Int) := by omega
    have htn : (k : Int).toNat = k := by omega
    obtain ⟨mb, hmb⟩ : ∃ b, mayF r max d = b := ⟨_, rfl⟩
    have HCK := Lib.hid (fun W => FrCheck_is r max d mb W (by omega) hmb)
    have HRF := Lib.hid (fun W => RFramer_is r max d mb W (by omega) hmb)
    have hldf := load_fr HI.out.out.2.2.2.1
    clear hcell hss hc hbb
    go_wp2_with (refine wpList_load_any (by rfl) 46 (.tmp 3) rfl gf 0 rfl _ hldf ?_)
    refine (HRF.out _).mono ?_
    rintro e1 w6 ⟨rfl, q1⟩
    have HI1 := Lib.hid (HI.out.below q1)
    have HB1 : Hid (Below wr.heap.size wr w6) := q1
    have hldf := load_fr HI1.out.out.2.2.2.1
    clear q1 HRF c3
    go_wp2_with (refine wpList_load_any (by rfl) 46 (.tmp 3) rfl gf 0 rfl _ hldf ?_)
    refine (HCK.out _).mono ?_
    rintro e2 w7 ⟨rfl, q1⟩
    have HI2 := Lib.hid (HI1.out.below q1)
    have HSS : Hid (ExS gf g b (o + k) (frArr r max d) (scArr rest max dead (some ⟨b, o, none⟩) l c) s w7) := Lib.hid ⟨HI2.out.out.2.2.2.1, HI2.out.out.2.1, ((q1.mono HB1.out.size).cell (p := ⟨b, o + k, none⟩) HSB.out).trans ((HB1.out.cell (p := ⟨b, o + k, none⟩) HSB.out).trans HSC.out), by have := HSB.out; have := HB1.out.size; have := q1.size; omega⟩
    clear q1 HCK hldf HI HI1 HB1 HSB HSC
    cases mb with
    | false =>
     have HC := Lib.hid (fun W => Feed_no r max d s W (by omega) hmb)
     clear hmb
     go_upto_region 11 with (go_at_call 18; refine (num6 _ _).mono ?_; rintro e'' w' ⟨rfl, rfl⟩)
     go_cut [7, 8, 9] from 45 to 55 (fun va vb vc wx => ∃ (k7 : Nat) (A' : Option Addr) (c' : Nat), va = .pointer (some ⟨k7, 0, none⟩) ∧ vb = .slice A' ([] : List Pk).length c' ∧ vc = .int .i64 1 ∧ Box wx k7 (frArr (⟨#[]⟩ : ByteArray) 0 false) ∧ OwnPks wx w7.heap.size (.slice A' ([] : List Pk).length c') ([] : List Pk) ∧ Below w7.heap.size w7 wx ∧ w7.heap.size ≤ k7)
     case first =>
      have hS0 := HSS.out.below (below_drewN (Below.refl _ _) 1)
      refine wp_region_held_drew (S := ExS gf g b (o + k) (frArr r max d) (scArr rest max dead (some ⟨b, o, none⟩) l c) s) (by kernel_rfl) hS0 (fun hS => ?_)
      clear hS0
      have HDR : Hid (Below w7.heap.size w7 (World.drew w7)) := Lib.hid (below_drewN (Below.refl _ _) 1)
      generalize World.drew w7 = Wd at hS HDR ⊢
      refine take_load 0 46 46 (.tmp 3) gf 0 (.agg (frArr r max d)) rfl rfl (by kernel_rfl) (fun _ _ _ h => h) (by rfl) hS rfl rfl (fun w' hS' => load_fr hS'.1) ?_
      simp only [Act.put, List.setIfInBounds_toArray, List.set_cons_zero, List.set_cons_succ]
      refine take_op 1 47 ?vp1 rfl rfl (by kernel_rfl) (fun _ _ _ h => h) (by rfl) hS (fun w' hS' => ?hvp1) ?hhp1
      case hvp1 => (go_simp; try with_reducible rfl)
      simp only [Act.put, List.setIfInBounds_toArray, List.set_cons_zero, List.set_cons_succ]
      refine take_op 2 48 ?vp2 rfl rfl (by kernel_rfl) (fun _ _ _ h => h) (by rfl) hS (fun w' hS' => ?hvp2) ?hhp2
      case hvp2 => (have kk : w'.cell? ⟨g, 3, none⟩ = some (.slice (some ⟨b, o, none⟩) l.length c) := hS'.2.1.cell 3; go_simp; try with_reducible rfl)
      simp only [Act.put, List.setIfInBounds_toArray, List.set_cons_zero, List.set_cons_succ]
      refine take_op 3 49 ?vp3 rfl rfl (by kernel_rfl) (fun _ _ _ h => h) (by rfl) hS (fun w' hS' => ?hvp3) ?hhp3
      case hvp3 => (go_simp; try with_reducible rfl)
      simp only [Act.put, List.setIfInBounds_toArray, List.set_cons_zero, List.set_cons_succ]
      refine take_op 4 50 ?vp4 rfl rfl (by kernel_rfl) (fun _ _ _ h => h) (by rfl) hS (fun w' hS' => ?hvp4) ?hhp4
      case hvp4 => (go_simp; try with_reducible rfl)
      simp only [Act.put, List.setIfInBounds_toArray, List.set_cons_zero, List.set_cons_succ]
      refine take_op 5 51 ?vp5 rfl rfl (by kernel_rfl) (fun _ _ _ h => h) (by rfl) hS (fun w' hS' => ?hvp5) ?hhp5
      case hvp5 => (have kk : w'.cell? ⟨b, o + k, none⟩ = some (.string s) := hS'.2.2.1; go_simp; try with_reducible rfl)
      simp only [Act.put, List.setIfInBounds_toArray, List.set_cons_zero, List.set_cons_succ]
      refine two_ops 6 11 rfl rfl (by kernel_rfl) (by rfl) (by rfl) (wp_call_ex 52 20 #[.agg (frArr r max d), .string s] _ rfl (by go_simp) (HC.out Wd) ?_) (wp_made 7 (.pointer (some ⟨Wd.heap.size, 0, none⟩)) rfl (w' := Wd.alloc (.cells (frArr ⟨#[]⟩ 0 false) 46)) (by go_simp; try rfl) ⟨?_, ?_⟩)
      ·rintro q w3 ⟨A', c', rfl, o1, q1⟩
       have hS3 := hS.below q1
       refine ⟨_, rfl, hS3, ?_⟩
       simp only [Act.put, List.setIfInBounds_toArray, List.set_cons_zero, List.set_cons_succ]
       refine take_op 7 45 ?vpa7 rfl rfl (by kernel_rfl) (fun _ _ _ h => h) (by rfl) hS3 (fun w' hS' => ?hvpa7) ?hhpa7
       case hvpa7 => (go_simp; try with_reducible rfl)
       simp only [Act.put, List.setIfInBounds_toArray, List.set_cons_zero, List.set_cons_succ]
       refine take_op 8 53 ?vpa8 rfl rfl (by kernel_rfl) (fun _ _ _ h => h) (by rfl) hS3 (fun w' hS' => ?hvpa8) ?hhpa8
       case hvpa8 => (go_simp; try with_reducible rfl)
       simp only [Act.put, List.setIfInBounds_toArray, List.set_cons_zero, List.set_cons_succ]
       refine take_op 9 54 ?vpa9 rfl rfl (by kernel_rfl) (fun _ _ _ h => h) (by rfl) hS3 (fun w' hS' => ?hvpa9) ?hhpa9
       case hvpa9 => (go_simp; try with_reducible rfl)
       simp only [Act.put, List.setIfInBounds_toArray, List.set_cons_zero, List.set_cons_succ]
       refine take_op 10 55 ?vpa10 rfl rfl (by kernel_rfl) (fun _ _ _ h => h) (by rfl) hS3 (fun w' hS' => ?hvpa10) ?hhpa10
       case hvpa10 => (go_simp; try with_reducible rfl)
       simp only [Act.put, List.setIfInBounds_toArray, List.set_cons_zero, List.set_cons_succ]
       have hal := (Below.refl w3.heap.size w3).alloc (Nat.le_refl _) (.cells (frArr ⟨#[]⟩ 0 false) 46)
       have hbn := Box.new w3 46 (frArr ⟨#[]⟩ 0 false)
       refine only_op 11 rfl (by kernel_rfl) (by rfl) (wp_made 7 (.pointer (some ⟨w3.heap.size, 0, none⟩)) rfl (w' := w3.alloc (.cells (frArr ⟨#[]⟩ 0 false) 46)) (by go_simp; try rfl) ⟨?_, ?_⟩)
       ·exact hS3.below hal
       simp only [Act.put, List.setIfInBounds_toArray, List.set_cons_zero, List.set_cons_succ]
       have hnb := new_below w3 (frArr ⟨#[]⟩ 0 false) (frArr (⟨#[]⟩ : ByteArray) 0 false) 46
       have hW4 : Below w7.heap.size w7 ((w3.alloc (.cells (frArr ⟨#[]⟩ 0 false) 46)).setRow w3.heap.size (frArr (⟨#[]⟩ : ByteArray) 0 false)) := (HDR.out.trans (q1.mono HDR.out.size)).trans (hnb.mono (Nat.le_trans HDR.out.size q1.size))
       have hO4 : OwnPks ((w3.alloc (.cells (frArr ⟨#[]⟩ 0 false) 46)).setRow w3.heap.size (frArr (⟨#[]⟩ : ByteArray) 0 false)) w7.heap.size (.slice A' ([] : List Pk).length c') ([] : List Pk) := (o1.below hnb).mono HDR.out.size
       have hB4 := new_box w3 (frArr ⟨#[]⟩ 0 false) (frArr (⟨#[]⟩ : ByteArray) 0 false) 46
       have hS4 := hS3.below hnb
       have hk7 : w7.heap.size ≤ w3.heap.size := Nat.le_trans HDR.out.size q1.size
       obtain ⟨TT, hTT⟩ := hbn
       refine only_op 12 rfl (by kernel_rfl) (by rfl) (wp_store_row 46 (.tmp 7) (.tmp 53) rfl w3.heap.size (frArr (⟨#[]⟩ : ByteArray) 0 false) rfl rfl TT _ hTT info_fr rfl (one_fr _ _ _) ⟨hS4, ?_⟩)
       simp only [Act.put]
       refine take_op 13 8 ?vpa13 rfl rfl (by kernel_rfl) (fun _ _ _ h => h) (by rfl) hS4 (fun w' hS' => ?hvpa13) ?hhpa13
       case hvpa13 => (go_simp; try with_reducible rfl)
       simp only [Act.put, List.setIfInBounds_toArray, List.set_cons_zero, List.set_cons_succ]
       refine take_op 14 9 ?vpa14 rfl rfl (by kernel_rfl) (fun _ _ _ h => h) (by rfl) hS4 (fun w' hS' => ?hvpa14) ?hhpa14
       case hvpa14 => (go_simp; try with_reducible rfl)
       simp only [Act.put, List.setIfInBounds_toArray, List.set_cons_zero, List.set_cons_succ]
       refine wpAnyH_done (by kernel_rfl) ?_ _
       go_wp2_with fail
       go_meet
       exact ⟨w3.heap.size, A', c', rfl, rfl, rfl, hB4, hO4, hW4, hk7⟩
      ·exact hS.below ((Below.refl _ _).alloc (Nat.le_refl _) _)
      ·simp only [Act.put, List.setIfInBounds_toArray, List.set_cons_zero, List.set_cons_succ]
       have hal := (Below.refl Wd.heap.size Wd).alloc (Nat.le_refl _) (.cells (frArr ⟨#[]⟩ 0 false) 46)
       have hbn := Box.new Wd 46 (frArr ⟨#[]⟩ 0 false)
       obtain ⟨Wa, hWa⟩ : ∃ Wa, Wd.alloc (.cells (frArr ⟨#[]⟩ 0 false) 46) = Wa := ⟨_, rfl⟩
       have hsz : Wa.heap.size = Wd.heap.size + 1 := by rw [← hWa, World.size_alloc]
       rw [hWa] at hal hbn ⊢
       have hSa := hS.below hal
       refine only_op 6 rfl (by kernel_rfl) (by rfl) (wp_call_ex 52 20 #[.agg (frArr r max d), .string s] _ rfl (by go_simp) (HC.out Wa) ?_)
       rintro q w3 ⟨A', c', rfl, o1, q1⟩
       have hS3 := hSa.below q1
       refine ⟨_, rfl, hS3, ?_⟩
       simp only [Act.put, List.setIfInBounds_toArray, List.set_cons_zero, List.set_cons_succ]
       refine take_op 7 45 ?vpb7 rfl rfl (by kernel_rfl) (fun _ _ _ h => h) (by rfl) hS3 (fun w' hS' => ?hvpb7) ?hhpb7
       case hvpb7 => (go_simp; try with_reducible rfl)
       simp only [Act.put, List.setIfInBounds_toArray, List.set_cons_zero, List.set_cons_succ]
       refine take_op 8 53 ?vpb8 rfl rfl (by kernel_rfl) (fun _ _ _ h => h) (by rfl) hS3 (fun w' hS' => ?hvpb8) ?hhpb8
       case hvpb8 => (go_simp; try with_reducible rfl)
       simp only [Act.put, List.setIfInBounds_toArray, List.set_cons_zero, List.set_cons_succ]
       refine take_op 9 54 ?vpb9 rfl rfl (by kernel_rfl) (fun _ _ _ h => h) (by rfl) hS3 (fun w' hS' => ?hvpb9) ?hhpb9
       case hvpb9 => (go_simp; try with_reducible rfl)
       simp only [Act.put, List.setIfInBounds_toArray, List.set_cons_zero, List.set_cons_succ]
       refine take_op 10 55 ?vpb10 rfl rfl (by kernel_rfl) (fun _ _ _ h => h) (by rfl) hS3 (fun w' hS' => ?hvpb10) ?hhpb10
       case hvpb10 => (go_simp; try with_reducible rfl)
       simp only [Act.put, List.setIfInBounds_toArray, List.set_cons_zero, List.set_cons_succ]
       have hb3 := hbn.below q1
       have hrow := Bar.row Wd.heap.size w3 (frArr (⟨#[]⟩ : ByteArray) 0 false)
       have hWd : Below Wd.heap.size Wd (w3.setRow Wd.heap.size (frArr (⟨#[]⟩ : ByteArray) 0 false)) := hrow.below (hal.trans (q1.mono (by omega))) (Nat.le_refl _) (by have := q1.size; omega)
       have hW4 : Below w7.heap.size w7 (w3.setRow Wd.heap.size (frArr (⟨#[]⟩ : ByteArray) 0 false)) := HDR.out.trans (hWd.mono HDR.out.size)
       have hO4 : OwnPks (w3.setRow Wd.heap.size (frArr (⟨#[]⟩ : ByteArray) 0 false)) w7.heap.size (.slice A' ([] : List Pk).length c') ([] : List Pk) := (o1.bar hrow (by omega)).mono (by have := HDR.out.size; omega)
       have hB4 := hb3.row (frArr (⟨#[]⟩ : ByteArray) 0 false)
       have hS4 := hS.below hWd
       have hk7 : w7.heap.size ≤ Wd.heap.size := HDR.out.size
       obtain ⟨TT, hTT⟩ := hb3
       refine only_op 12 rfl (by kernel_rfl) (by rfl) (wp_store_row 46 (.tmp 7) (.tmp 53) rfl Wd.heap.size (frArr (⟨#[]⟩ : ByteArray) 0 false) rfl rfl TT _ hTT info_fr rfl (one_fr _ _ _) ⟨hS4, ?_⟩)
       simp only [Act.put]
       refine take_op 13 8 ?vpb13 rfl rfl (by kernel_rfl) (fun _ _ _ h => h) (by rfl) hS4 (fun w' hS' => ?hvpb13) ?hhpb13
       case hvpb13 => (go_simp; try with_reducible rfl)
       simp only [Act.put, List.setIfInBounds_toArray, List.set_cons_zero, List.set_cons_succ]
       refine take_op 14 9 ?vpb14 rfl rfl (by kernel_rfl) (fun _ _ _ h => h) (by rfl) hS4 (fun w' hS' => ?hvpb14) ?hhpb14
       case hvpb14 => (go_simp; try with_reducible rfl)
       simp only [Act.put, List.setIfInBounds_toArray, List.set_cons_zero, List.set_cons_succ]
       refine wpAnyH_done (by kernel_rfl) ?_ _
       go_wp2_with fail
       go_meet
       exact ⟨Wd.heap.size, A', c', rfl, rfl, rfl, hB4, hO4, hW4, hk7⟩
     case rest =>
      obtain ⟨k7, A', c', rfl, rfl, rfl, hb7, ho7, hbl, hne⟩ := hcut
      have HI3 := Lib.hid (HI2.out.below hbl)
      clear hb7 ho7 hbl hne HI2 HSS HC
      go_wp2_with (go_at_call 18; refine (num6 _ _).mono ?_; rintro e'' w' ⟨rfl, rfl⟩)
      go_roundw
      case rel => exact ⟨k + 1, r, d, h1, h2, by go_num, by omega, HI3.out⟩
      case measure => simp [RowKit.intOf]; omega
    | true =>
     obtain ⟨N, x', d', e', hF1, hF2, hm2, hfw, hNl, hxz⟩ := exact_at (s := s) hmb (by omega)
     have HC := Lib.hid hF1
     have HC2 := Lib.hid hF2
     have HM2 := Lib.hid hm2
     have HFW := Lib.hid hfw
     clear hmb hF1 hF2 hm2 hfw
     go_upto_region 11 with (go_at_call 18; refine (num6 _ _).mono ?_; rintro e'' w' ⟨rfl, rfl⟩)
     go_cut [7, 8, 9] from 45 to 55 (fun va vb vc wx => ∃ (k7 : Nat) (A' : Option Addr) (c' : Nat), va = .pointer (some ⟨k7, 0, none⟩) ∧ vb = .slice A' N.length c' ∧ vc = .int .i64 e' ∧ Box wx k7 (frArr x' max d') ∧ OwnPks wx w7.heap.size (.slice A' N.length c') N ∧ Below w7.heap.size w7 wx ∧ w7.heap.size ≤ k7)
     case first =>
      clear HC2 HM2 HFW
      have hS0 := HSS.out.below (below_drewN (Below.refl _ _) 1)
      refine wp_region_held_drew (S := ExS gf g b (o + k) (frArr r max d) (scArr rest max dead (some ⟨b, o, none⟩) l c) s) (by kernel_rfl) hS0 (fun hS => ?_)
      clear hS0
      have HDR : Hid (Below w7.heap.size w7 (World.drew w7)) := Lib.hid (below_drewN (Below.refl _ _) 1)
      generalize World.drew w7 = Wd at hS HDR ⊢
      refine take_load 0 46 46 (.tmp 3) gf 0 (.agg (frArr r max d)) rfl rfl (by kernel_rfl) (fun _ _ _ h => h) (by rfl) hS rfl rfl (fun w' hS' => load_fr hS'.1) ?_
      simp only [Act.put, List.setIfInBounds_toArray, List.set_cons_zero, List.set_cons_succ]
      refine take_op 1 47 ?vr1 rfl rfl (by kernel_rfl) (fun _ _ _ h => h) (by rfl) hS (fun w' hS' => ?hvr1) ?hhr1
      case hvr1 => (go_simp; try with_reducible rfl)
      simp only [Act.put, List.setIfInBounds_toArray, List.set_cons_zero, List.set_cons_succ]
      refine take_op 2 48 ?vr2 rfl rfl (by kernel_rfl) (fun _ _ _ h => h) (by rfl) hS (fun w' hS' => ?hvr2) ?hhr2
      case hvr2 => (have kk : w'.cell? ⟨g, 3, none⟩ = some (.slice (some ⟨b, o, none⟩) l.length c) := hS'.2.1.cell 3; go_simp; try with_reducible rfl)
      simp only [Act.put, List.setIfInBounds_toArray, List.set_cons_zero, List.set_cons_succ]
      refine take_op 3 49 ?vr3 rfl rfl (by kernel_rfl) (fun _ _ _ h => h) (by rfl) hS (fun w' hS' => ?hvr3) ?hhr3
      case hvr3 => (go_simp; try with_reducible rfl)
      simp only [Act.put, List.setIfInBounds_toArray, List.set_cons_zero, List.set_cons_succ]
      refine take_op 4 50 ?vr4 rfl rfl (by kernel_rfl) (fun _ _ _ h => h) (by rfl) hS (fun w' hS' => ?hvr4) ?hhr4
      case hvr4 => (go_simp; try with_reducible rfl)
      simp only [Act.put, List.setIfInBounds_toArray, List.set_cons_zero, List.set_cons_succ]
      refine take_op 5 51 ?vr5 rfl rfl (by kernel_rfl) (fun _ _ _ h => h) (by rfl) hS (fun w' hS' => ?hvr5) ?hhr5
      case hvr5 => (have kk : w'.cell? ⟨b, o + k, none⟩ = some (.string s) := hS'.2.2.1; go_simp; try with_reducible rfl)
      simp only [Act.put, List.setIfInBounds_toArray, List.set_cons_zero, List.set_cons_succ]
      refine two_ops 6 11 rfl rfl (by kernel_rfl) (by rfl) (by rfl) (wp_call_ex 52 20 #[.agg (frArr r max d), .string s] _ rfl (by go_simp) (HC.out Wd) ?_) (wp_made 7 (.pointer (some ⟨Wd.heap.size, 0, none⟩)) rfl (w' := Wd.alloc (.cells (frArr ⟨#[]⟩ 0 false) 46)) (by go_simp; try rfl) ⟨?_, ?_⟩)
      ·rintro q w3 ⟨A', c', rfl, o1, q1⟩
       have hS3 := hS.below q1
       refine ⟨_, rfl, hS3, ?_⟩
       simp only [Act.put, List.setIfInBounds_toArray, List.set_cons_zero, List.set_cons_succ]
       refine take_op 7 45 ?vra7 rfl rfl (by kernel_rfl) (fun _ _ _ h => h) (by rfl) hS3 (fun w' hS' => ?hvra7) ?hhra7
       case hvra7 => (go_simp; try with_reducible rfl)
       simp only [Act.put, List.setIfInBounds_toArray, List.set_cons_zero, List.set_cons_succ]
       refine take_op 8 53 ?vra8 rfl rfl (by kernel_rfl) (fun _ _ _ h => h) (by rfl) hS3 (fun w' hS' => ?hvra8) ?hhra8
       case hvra8 => (go_simp; try with_reducible rfl)
       simp only [Act.put, List.setIfInBounds_toArray, List.set_cons_zero, List.set_cons_succ]
       refine take_op 9 54 ?vra9 rfl rfl (by kernel_rfl) (fun _ _ _ h => h) (by rfl) hS3 (fun w' hS' => ?hvra9) ?hhra9
       case hvra9 => (go_simp; try with_reducible rfl)
       simp only [Act.put, List.setIfInBounds_toArray, List.set_cons_zero, List.set_cons_succ]
       refine take_op 10 55 ?vra10 rfl rfl (by kernel_rfl) (fun _ _ _ h => h) (by rfl) hS3 (fun w' hS' => ?hvra10) ?hhra10
       case hvra10 => (go_simp; try with_reducible rfl)
       simp only [Act.put, List.setIfInBounds_toArray, List.set_cons_zero, List.set_cons_succ]
       have hal := (Below.refl w3.heap.size w3).alloc (Nat.le_refl _) (.cells (frArr ⟨#[]⟩ 0 false) 46)
       have hbn := Box.new w3 46 (frArr ⟨#[]⟩ 0 false)
       refine only_op 11 rfl (by kernel_rfl) (by rfl) (wp_made 7 (.pointer (some ⟨w3.heap.size, 0, none⟩)) rfl (w' := w3.alloc (.cells (frArr ⟨#[]⟩ 0 false) 46)) (by go_simp; try rfl) ⟨?_, ?_⟩)
       ·exact hS3.below hal
       simp only [Act.put, List.setIfInBounds_toArray, List.set_cons_zero, List.set_cons_succ]
       have hnb := new_below w3 (frArr ⟨#[]⟩ 0 false) (frArr x' max d') 46
       have hW4 : Below w7.heap.size w7 ((w3.alloc (.cells (frArr ⟨#[]⟩ 0 false) 46)).setRow w3.heap.size (frArr x' max d')) := (HDR.out.trans (q1.mono HDR.out.size)).trans (hnb.mono (Nat.le_trans HDR.out.size q1.size))
       have hO4 : OwnPks ((w3.alloc (.cells (frArr ⟨#[]⟩ 0 false) 46)).setRow w3.heap.size (frArr x' max d')) w7.heap.size (.slice A' N.length c') N := (o1.below hnb).mono HDR.out.size
       have hB4 := new_box w3 (frArr ⟨#[]⟩ 0 false) (frArr x' max d') 46
       have hS4 := hS3.below hnb
       have hk7 : w7.heap.size ≤ w3.heap.size := Nat.le_trans HDR.out.size q1.size
       obtain ⟨TT, hTT⟩ := hbn
       refine only_op 12 rfl (by kernel_rfl) (by rfl) (wp_store_row 46 (.tmp 7) (.tmp 53) rfl w3.heap.size (frArr x' max d') rfl rfl TT _ hTT info_fr rfl (one_fr _ _ _) ⟨hS4, ?_⟩)
       simp only [Act.put]
       refine take_op 13 8 ?vra13 rfl rfl (by kernel_rfl) (fun _ _ _ h => h) (by rfl) hS4 (fun w' hS' => ?hvra13) ?hhra13
       case hvra13 => (go_simp; try with_reducible rfl)
       simp only [Act.put, List.setIfInBounds_toArray, List.set_cons_zero, List.set_cons_succ]
       refine take_op 14 9 ?vra14 rfl rfl (by kernel_rfl) (fun _ _ _ h => h) (by rfl) hS4 (fun w' hS' => ?hvra14) ?hhra14
       case hvra14 => (go_simp; try with_reducible rfl)
       simp only [Act.put, List.setIfInBounds_toArray, List.set_cons_zero, List.set_cons_succ]
       refine wpAnyH_done (by kernel_rfl) ?_ _
       go_wp2_with fail
       go_meet
       exact ⟨w3.heap.size, A', c', rfl, rfl, rfl, hB4, hO4, hW4, hk7⟩
      ·exact hS.below ((Below.refl _ _).alloc (Nat.le_refl _) _)
      ·simp only [Act.put, List.setIfInBounds_toArray, List.set_cons_zero, List.set_cons_succ]
       have hal := (Below.refl Wd.heap.size Wd).alloc (Nat.le_refl _) (.cells (frArr ⟨#[]⟩ 0 false) 46)
       have hbn := Box.new Wd 46 (frArr ⟨#[]⟩ 0 false)
       obtain ⟨Wa, hWa⟩ : ∃ Wa, Wd.alloc (.cells (frArr ⟨#[]⟩ 0 false) 46) = Wa := ⟨_, rfl⟩
       have hsz : Wa.heap.size = Wd.heap.size + 1 := by rw [← hWa, World.size_alloc]
       rw [hWa] at hal hbn ⊢
       have hSa := hS.below hal
       refine only_op 6 rfl (by kernel_rfl) (by rfl) (wp_call_ex 52 20 #[.agg (frArr r max d), .string s] _ rfl (by go_simp) (HC.out Wa) ?_)
       rintro q w3 ⟨A', c', rfl, o1, q1⟩
       have hS3 := hSa.below q1
       refine ⟨_, rfl, hS3, ?_⟩
       simp only [Act.put, List.setIfInBounds_toArray, List.set_cons_zero, List.set_cons_succ]
       refine take_op 7 45 ?vrb7 rfl rfl (by kernel_rfl) (fun _ _ _ h => h) (by rfl) hS3 (fun w' hS' => ?hvrb7) ?hhrb7
       case hvrb7 => (go_simp; try with_reducible rfl)
       simp only [Act.put, List.setIfInBounds_toArray, List.set_cons_zero, List.set_cons_succ]
       refine take_op 8 53 ?vrb8 rfl rfl (by kernel_rfl) (fun _ _ _ h => h) (by rfl) hS3 (fun w' hS' => ?hvrb8) ?hhrb8
       case hvrb8 => (go_simp; try with_reducible rfl)
       simp only [Act.put, List.setIfInBounds_toArray, List.set_cons_zero, List.set_cons_succ]
       refine take_op 9 54 ?vrb9 rfl rfl (by kernel_rfl) (fun _ _ _ h => h) (by rfl) hS3 (fun w' hS' => ?hvrb9) ?hhrb9
       case hvrb9 => (go_simp; try with_reducible rfl)
       simp only [Act.put, List.setIfInBounds_toArray, List.set_cons_zero, List.set_cons_succ]
       refine take_op 10 55 ?vrb10 rfl rfl (by kernel_rfl) (fun _ _ _ h => h) (by rfl) hS3 (fun w' hS' => ?hvrb10) ?hhrb10
       case hvrb10 => (go_simp; try with_reducible rfl)
       simp only [Act.put, List.setIfInBounds_toArray, List.set_cons_zero, List.set_cons_succ]
       have hb3 := hbn.below q1
       have hrow := Bar.row Wd.heap.size w3 (frArr x' max d')
       have hWd : Below Wd.heap.size Wd (w3.setRow Wd.heap.size (frArr x' max d')) := hrow.below (hal.trans (q1.mono (by omega))) (Nat.le_refl _) (by have := q1.size; omega)
       have hW4 : Below w7.heap.size w7 (w3.setRow Wd.heap.size (frArr x' max d')) := HDR.out.trans (hWd.mono HDR.out.size)
       have hO4 : OwnPks (w3.setRow Wd.heap.size (frArr x' max d')) w7.heap.size (.slice A' N.length c') N := (o1.bar hrow (by omega)).mono (by have := HDR.out.size; omega)
       have hB4 := hb3.row (frArr x' max d')
       have hS4 := hS.below hWd
       have hk7 : w7.heap.size ≤ Wd.heap.size := HDR.out.size
       obtain ⟨TT, hTT⟩ := hb3
       refine only_op 12 rfl (by kernel_rfl) (by rfl) (wp_store_row 46 (.tmp 7) (.tmp 53) rfl Wd.heap.size (frArr x' max d') rfl rfl TT _ hTT info_fr rfl (one_fr _ _ _) ⟨hS4, ?_⟩)
       simp only [Act.put]
       refine take_op 13 8 ?vrb13 rfl rfl (by kernel_rfl) (fun _ _ _ h => h) (by rfl) hS4 (fun w' hS' => ?hvrb13) ?hhrb13
       case hvrb13 => (go_simp; try with_reducible rfl)
       simp only [Act.put, List.setIfInBounds_toArray, List.set_cons_zero, List.set_cons_succ]
       refine take_op 14 9 ?vrb14 rfl rfl (by kernel_rfl) (fun _ _ _ h => h) (by rfl) hS4 (fun w' hS' => ?hvrb14) ?hhrb14
       case hvrb14 => (go_simp; try with_reducible rfl)
       simp only [Act.put, List.setIfInBounds_toArray, List.set_cons_zero, List.set_cons_succ]
       refine wpAnyH_done (by kernel_rfl) ?_ _
       go_wp2_with fail
       go_meet
       exact ⟨Wd.heap.size, A', c', rfl, rfl, rfl, hB4, hO4, hW4, hk7⟩
     case rest =>
      obtain ⟨k7, A1, c1, rfl, rfl, rfl, hb7, ho7, hbl, hne⟩ := hcut
      have HI3 := Lib.hid (HI2.out.below hbl)
      have HB7 := Lib.hid hb7
      have HO7 := Lib.hid ho7
      have HSS3 := Lib.hid (HSS.out.below hbl)
      clear hb7 ho7 hbl hne HI2 HSS HC
      go_upto_region 15 with fail
      go_cut [10, 11, 12] from 66 to 76 (fun va vb vc wx => ∃ (k7 : Nat) (A' : Option Addr) (c' : Nat), va = .pointer (some ⟨k7, 0, none⟩) ∧ vb = .slice A' N.length c' ∧ vc = .int .i64 e' ∧ Box wx k7 (frArr x' max d') ∧ OwnPks wx wc.heap.size (.slice A' N.length c') N ∧ Below wc.heap.size wc wx ∧ wc.heap.size ≤ k7)
      case first =>
       clear HM2 HFW HB7 HO7
       have hS0 := HSS3.out.below (below_drewN (Below.refl _ _) 1)
       refine wp_region_held_drew (S := ExS gf g b (o + k) (frArr r max d) (scArr rest max dead (some ⟨b, o, none⟩) l c) s) (by kernel_rfl) hS0 (fun hS => ?_)
       clear hS0
       have HDR : Hid (Below wc.heap.size wc (World.drew wc)) := Lib.hid (below_drewN (Below.refl _ _) 1)
       generalize World.drew wc = Wd at hS HDR ⊢
       refine take_load 0 67 46 (.tmp 3) gf 0 (.agg (frArr r max d)) rfl rfl (by kernel_rfl) (fun _ _ _ h => h) (by rfl) hS rfl rfl (fun w' hS' => load_fr hS'.1) ?_
       simp only [Act.put, List.setIfInBounds_toArray, List.set_cons_zero, List.set_cons_succ]
       refine take_op 1 68 ?vq1 rfl rfl (by kernel_rfl) (fun _ _ _ h => h) (by rfl) hS (fun w' hS' => ?hvq1) ?hhq1
       case hvq1 => (go_simp; try with_reducible rfl)
       simp only [Act.put, List.setIfInBounds_toArray, List.set_cons_zero, List.set_cons_succ]
       refine take_op 2 69 ?vq2 rfl rfl (by kernel_rfl) (fun _ _ _ h => h) (by rfl) hS (fun w' hS' => ?hvq2) ?hhq2
       case hvq2 => (have kk : w'.cell? ⟨g, 3, none⟩ = some (.slice (some ⟨b, o, none⟩) l.length c) := hS'.2.1.cell 3; go_simp; try with_reducible rfl)
       simp only [Act.put, List.setIfInBounds_toArray, List.set_cons_zero, List.set_cons_succ]
       refine take_op 3 70 ?vq3 rfl rfl (by kernel_rfl) (fun _ _ _ h => h) (by rfl) hS (fun w' hS' => ?hvq3) ?hhq3
       case hvq3 => (go_simp; try with_reducible rfl)
       simp only [Act.put, List.setIfInBounds_toArray, List.set_cons_zero, List.set_cons_succ]
       refine take_op 4 71 ?vq4 rfl rfl (by kernel_rfl) (fun _ _ _ h => h) (by rfl) hS (fun w' hS' => ?hvq4) ?hhq4
       case hvq4 => (go_simp; try with_reducible rfl)
       simp only [Act.put, List.setIfInBounds_toArray, List.set_cons_zero, List.set_cons_succ]
       refine take_op 5 72 ?vq5 rfl rfl (by kernel_rfl) (fun _ _ _ h => h) (by rfl) hS (fun w' hS' => ?hvq5) ?hhq5
       case hvq5 => (have kk : w'.cell? ⟨b, o + k, none⟩ = some (.string s) := hS'.2.2.1; go_simp; try with_reducible rfl)
       simp only [Act.put, List.setIfInBounds_toArray, List.set_cons_zero, List.set_cons_succ]
       refine two_ops 6 11 rfl rfl (by kernel_rfl) (by rfl) (by rfl) (wp_call_ex 73 21 #[.agg (frArr r max d), .string s] _ rfl (by go_simp) (HC2.out Wd) ?_) (wp_made 10 (.pointer (some ⟨Wd.heap.size, 0, none⟩)) rfl (w' := Wd.alloc (.cells (frArr ⟨#[]⟩ 0 false) 46)) (by go_simp; try rfl) ⟨?_, ?_⟩)
       ·rintro q w3 ⟨A', c', rfl, o1, q1⟩
        have hS3 := hS.below q1
        refine ⟨_, rfl, hS3, ?_⟩
        simp only [Act.put, List.setIfInBounds_toArray, List.set_cons_zero, List.set_cons_succ]
        refine take_op 7 66 ?vqa7 rfl rfl (by kernel_rfl) (fun _ _ _ h => h) (by rfl) hS3 (fun w' hS' => ?hvqa7) ?hhqa7
        case hvqa7 => (go_simp; try with_reducible rfl)
        simp only [Act.put, List.setIfInBounds_toArray, List.set_cons_zero, List.set_cons_succ]
        refine take_op 8 74 ?vqa8 rfl rfl (by kernel_rfl) (fun _ _ _ h => h) (by rfl) hS3 (fun w' hS' => ?hvqa8) ?hhqa8
        case hvqa8 => (go_simp; try with_reducible rfl)
        simp only [Act.put, List.setIfInBounds_toArray, List.set_cons_zero, List.set_cons_succ]
        refine take_op 9 75 ?vqa9 rfl rfl (by kernel_rfl) (fun _ _ _ h => h) (by rfl) hS3 (fun w' hS' => ?hvqa9) ?hhqa9
        case hvqa9 => (go_simp; try with_reducible rfl)
        simp only [Act.put, List.setIfInBounds_toArray, List.set_cons_zero, List.set_cons_succ]
        refine take_op 10 76 ?vqa10 rfl rfl (by kernel_rfl) (fun _ _ _ h => h) (by rfl) hS3 (fun w' hS' => ?hvqa10) ?hhqa10
        case hvqa10 => (go_simp; try with_reducible rfl)
        simp only [Act.put, List.setIfInBounds_toArray, List.set_cons_zero, List.set_cons_succ]
        have hal := (Below.refl w3.heap.size w3).alloc (Nat.le_refl _) (.cells (frArr ⟨#[]⟩ 0 false) 46)
        have hbn := Box.new w3 46 (frArr ⟨#[]⟩ 0 false)
        refine only_op 11 rfl (by kernel_rfl) (by rfl) (wp_made 10 (.pointer (some ⟨w3.heap.size, 0, none⟩)) rfl (w' := w3.alloc (.cells (frArr ⟨#[]⟩ 0 false) 46)) (by go_simp; try rfl) ⟨?_, ?_⟩)
        ·exact hS3.below hal
        simp only [Act.put, List.setIfInBounds_toArray, List.set_cons_zero, List.set_cons_succ]
        have hnb := new_below w3 (frArr ⟨#[]⟩ 0 false) (frArr x' max d') 46
        have hW4 : Below wc.heap.size wc ((w3.alloc (.cells (frArr ⟨#[]⟩ 0 false) 46)).setRow w3.heap.size (frArr x' max d')) := (HDR.out.trans (q1.mono HDR.out.size)).trans (hnb.mono (Nat.le_trans HDR.out.size q1.size))
        have hO4 : OwnPks ((w3.alloc (.cells (frArr ⟨#[]⟩ 0 false) 46)).setRow w3.heap.size (frArr x' max d')) wc.heap.size (.slice A' N.length c') N := (o1.below hnb).mono HDR.out.size
        have hB4 := new_box w3 (frArr ⟨#[]⟩ 0 false) (frArr x' max d') 46
        have hS4 := hS3.below hnb
        have hk7 : wc.heap.size ≤ w3.heap.size := Nat.le_trans HDR.out.size q1.size
        obtain ⟨TT, hTT⟩ := hbn
        refine only_op 12 rfl (by kernel_rfl) (by rfl) (wp_store_row 46 (.tmp 10) (.tmp 74) rfl w3.heap.size (frArr x' max d') rfl rfl TT _ hTT info_fr rfl (one_fr _ _ _) ⟨hS4, ?_⟩)
        simp only [Act.put]
        refine take_op 13 11 ?vqa13 rfl rfl (by kernel_rfl) (fun _ _ _ h => h) (by rfl) hS4 (fun w' hS' => ?hvqa13) ?hhqa13
        case hvqa13 => (go_simp; try with_reducible rfl)
        simp only [Act.put, List.setIfInBounds_toArray, List.set_cons_zero, List.set_cons_succ]
        refine take_op 14 12 ?vqa14 rfl rfl (by kernel_rfl) (fun _ _ _ h => h) (by rfl) hS4 (fun w' hS' => ?hvqa14) ?hhqa14
        case hvqa14 => (go_simp; try with_reducible rfl)
        simp only [Act.put, List.setIfInBounds_toArray, List.set_cons_zero, List.set_cons_succ]
        refine wpAnyH_done (by kernel_rfl) ?_ _
        go_wp2_with fail
        go_meet
        exact ⟨w3.heap.size, A', c', rfl, rfl, rfl, hB4, hO4, hW4, hk7⟩
       ·exact hS.below ((Below.refl _ _).alloc (Nat.le_refl _) _)
       ·simp only [Act.put, List.setIfInBounds_toArray, List.set_cons_zero, List.set_cons_succ]
        have hal := (Below.refl Wd.heap.size Wd).alloc (Nat.le_refl _) (.cells (frArr ⟨#[]⟩ 0 false) 46)
        have hbn := Box.new Wd 46 (frArr ⟨#[]⟩ 0 false)
        obtain ⟨Wa, hWa⟩ : ∃ Wa, Wd.alloc (.cells (frArr ⟨#[]⟩ 0 false) 46) = Wa := ⟨_, rfl⟩
        have hsz : Wa.heap.size = Wd.heap.size + 1 := by rw [← hWa, World.size_alloc]
        rw [hWa] at hal hbn ⊢
        have hSa := hS.below hal
        refine only_op 6 rfl (by kernel_rfl) (by rfl) (wp_call_ex 73 21 #[.agg (frArr r max d), .string s] _ rfl (by go_simp) (HC2.out Wa) ?_)
        rintro q w3 ⟨A', c', rfl, o1, q1⟩
        have hS3 := hSa.below q1
        refine ⟨_, rfl, hS3, ?_⟩
        simp only [Act.put, List.setIfInBounds_toArray, List.set_cons_zero, List.set_cons_succ]
        refine take_op 7 66 ?vqb7 rfl rfl (by kernel_rfl) (fun _ _ _ h => h) (by rfl) hS3 (fun w' hS' => ?hvqb7) ?hhqb7
        case hvqb7 => (go_simp; try with_reducible rfl)
        simp only [Act.put, List.setIfInBounds_toArray, List.set_cons_zero, List.set_cons_succ]
        refine take_op 8 74 ?vqb8 rfl rfl (by kernel_rfl) (fun _ _ _ h => h) (by rfl) hS3 (fun w' hS' => ?hvqb8) ?hhqb8
        case hvqb8 => (go_simp; try with_reducible rfl)
        simp only [Act.put, List.setIfInBounds_toArray, List.set_cons_zero, List.set_cons_succ]
        refine take_op 9 75 ?vqb9 rfl rfl (by kernel_rfl) (fun _ _ _ h => h) (by rfl) hS3 (fun w' hS' => ?hvqb9) ?hhqb9
        case hvqb9 => (go_simp; try with_reducible rfl)
        simp only [Act.put, List.setIfInBounds_toArray, List.set_cons_zero, List.set_cons_succ]
        refine take_op 10 76 ?vqb10 rfl rfl (by kernel_rfl) (fun _ _ _ h => h) (by rfl) hS3 (fun w' hS' => ?hvqb10) ?hhqb10
        case hvqb10 => (go_simp; try with_reducible rfl)
        simp only [Act.put, List.setIfInBounds_toArray, List.set_cons_zero, List.set_cons_succ]
        have hb3 := hbn.below q1
        have hrow := Bar.row Wd.heap.size w3 (frArr x' max d')
        have hWd : Below Wd.heap.size Wd (w3.setRow Wd.heap.size (frArr x' max d')) := hrow.below (hal.trans (q1.mono (by omega))) (Nat.le_refl _) (by have := q1.size; omega)
        have hW4 : Below wc.heap.size wc (w3.setRow Wd.heap.size (frArr x' max d')) := HDR.out.trans (hWd.mono HDR.out.size)
        have hO4 : OwnPks (w3.setRow Wd.heap.size (frArr x' max d')) wc.heap.size (.slice A' N.length c') N := (o1.bar hrow (by omega)).mono (by have := HDR.out.size; omega)
        have hB4 := hb3.row (frArr x' max d')
        have hS4 := hS.below hWd
        have hk7 : wc.heap.size ≤ Wd.heap.size := HDR.out.size
        obtain ⟨TT, hTT⟩ := hb3
        refine only_op 12 rfl (by kernel_rfl) (by rfl) (wp_store_row 46 (.tmp 10) (.tmp 74) rfl Wd.heap.size (frArr x' max d') rfl rfl TT _ hTT info_fr rfl (one_fr _ _ _) ⟨hS4, ?_⟩)
        simp only [Act.put]
        refine take_op 13 11 ?vqb13 rfl rfl (by kernel_rfl) (fun _ _ _ h => h) (by rfl) hS4 (fun w' hS' => ?hvqb13) ?hhqb13
        case hvqb13 => (go_simp; try with_reducible rfl)
        simp only [Act.put, List.setIfInBounds_toArray, List.set_cons_zero, List.set_cons_succ]
        refine take_op 14 12 ?vqb14 rfl rfl (by kernel_rfl) (fun _ _ _ h => h) (by rfl) hS4 (fun w' hS' => ?hvqb14) ?hhqb14
        case hvqb14 => (go_simp; try with_reducible rfl)
        simp only [Act.put, List.setIfInBounds_toArray, List.set_cons_zero, List.set_cons_succ]
        refine wpAnyH_done (by kernel_rfl) ?_ _
        go_wp2_with fail
        go_meet
        exact ⟨Wd.heap.size, A', c', rfl, rfl, rfl, hB4, hO4, hW4, hk7⟩
      case rest =>
       obtain ⟨k8, A2, c2, rfl, rfl, rfl, hb8, ho8, hbl, hne⟩ := hcut
       have HI4 := Lib.hid (HI3.out.below hbl)
       have HB8 := Lib.hid (HB7.out.below hbl)
       have HB9 := Lib.hid hb8
       obtain ⟨ads, ha1⟩ := (HO7.out.below hbl).at
       obtain ⟨bds, ha2⟩ := ho8.at
       have HQ := Lib.hid (EqPackets_is N A1 A2 c1 c2 ads bds _ HFW.out (by omega) ha1 ha2)
       have HR := Lib.hid (fun W => RFramer_is x' max d' true W (by omega) HM2.out)
       have hld7 := load_fr HB8.out
       have hld8 := load_fr hb8
       have hneq := neq_fr x' max d'
       have hee : (e' != e') = false := by simp
       clear hb8 ho8 hbl hne ha1 ha2 HI3 HB7 HO7 HSS3 HC2 HFW
       go_wp2_with (first | (refine wpList_load_any (by rfl) 46 (.tmp 7) rfl k7 0 rfl _ hld7 ?_) | (refine wpList_load_any (by rfl) 46 (.tmp 10) rfl k8 0 rfl _ hld8 ?_) | (go_at_call 18; refine (num6 _ _).mono ?_; rintro e'' w' ⟨rfl, rfl⟩))
       refine HQ.out.mono ?_
       rintro q3 w8 ⟨rfl, q1⟩
       have HI5 := Lib.hid (HI4.out.below q1)
       have HB10 := Lib.hid (HB8.out.below q1)
       have HB11 := Lib.hid (HB9.out.below q1)
       have hld7 := load_fr HB10.out
       clear q1 HQ hld8 HI4 HB8 HB9 hneq hee
       go_wp2_with (refine wpList_load_any (by rfl) 46 (.tmp 7) rfl k7 0 rfl _ hld7 ?_)
       refine (HR.out _).mono ?_
       rintro q4 w9 ⟨rfl, q1⟩
       have HI6 := Lib.hid (HI5.out.below q1)
       have hld8 := load_fr (HB11.out.below q1)
       have HI7 := Lib.hid (ExIn.row (fr' := frArr x' max d') HI6.out (fun a ha => by injection ha with ha; rw [← ha]; have := HABX.out; have := HGF.out; show b < gf; omega))
       clear q1 HR hld7 HI5 HB10 HB11
       go_wp2_with (first | (refine wpList_load_any (by rfl) 46 (.tmp 10) rfl k8 0 rfl _ hld8 ?_) | (refine wpList_store_whole rfl 46 (.tmp 3) (.tmp 97) rfl gf (frArr x' max d') rfl rfl (frArr r max d) HI6.out.out.2.2.2.1 info_fr rfl (one_fr _ _ _) ?_; simp only [Act.put]))
       go_roundw
       case rel => exact ⟨k + 1, x', d', h1, h2, by go_num, by omega, HI7.out⟩
       case measure => simp [RowKit.intOf]; omega
   ·have HXR := Lib.hid HI.out.out.1
    clear HI
    by_cases hx : k < l.length
    ·have hkI : (k : Int) < (l.length : Int) := by omega
     have hd : decide ((k : Int) < 10) = false := decide_eq_false (by omega)
     go_wp2_with (go_at_call 23; refine (wakes6 _).mono ?_; rintro q2 w2' ⟨rfl, qb⟩)
     go_ret
     exact ⟨rfl, HXR.out.trans (qb.mono HXR.out.size)⟩
    ·have hd : decide ((k : Int) < (l.length : Int)) = false := decide_eq_false (by omega)
     go_wp2_with (go_at_call 23; refine (wakes6 _).mono ?_; rintro q2 w2' ⟨rfl, qb⟩)
     go_ret
     exact ⟨rfl, HXR.out.trans (qb.mono HXR.out.size)⟩
end Go.Proofs.YtdbbcfohjkgdcaaGreat
