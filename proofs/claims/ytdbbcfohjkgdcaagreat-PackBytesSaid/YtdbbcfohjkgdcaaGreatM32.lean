/- The document's own answer on packets: the bytes of a Subscribe, an Unsubscribe. -/
import Derived.Test.YtdbbcfohjkgdcaaGreatM00
import Derived.Test.YtdbbcfohjkgdcaaGreatM26
import Derived.Test.YtdbbcfohjkgdcaaGreatM31
set_option maxRecDepth 100000
set_option maxHeartbeats 64000000
namespace Go.Proofs.YtdbbcfohjkgdcaaGreat
open Go.RowKit Go.Lib Prp Pkt
theorem results_wl1 {fn : Func} {tmps : Array Value} {w : World} {c g : Nat} {x : Wl} {A : Option Addr} {n : Nat} (hr : fn.results = #[.cell c 28]) (h0 : tmps.getD c undef = .pointer (some ⟨g, 0, none⟩)) (hb : Box w g (wlArr x A n)) :
  (results fn tmps).run Tryz.prog w = .ok (.agg (wlArr x A n)) w := by
 unfold results
 rw [hr]
 simp only [List.mapM_toArray, List.mapM_cons, List.mapM_nil, h0, asAddr, Sem.run_bind, Sem.run_pure, Result.andThen_ok, bind_assoc, pure_bind, map_bind, map_pure, load_wlbox hb]
 rfl
theorem CopyWill_is (x : Wl) (A : Option Addr) (c : Nat) (w : World) (hm : x.ps.length * 48 ≤ 140737488351232) (h : PropsAt w w.heap.size A x.ps) :
  Calls Tryz.prog 27 #[.agg (wlArr x A c)] w fun e w' => ∃ A' c', e = .returned (.agg (wlArr x A' c')) ∧ PropsAt w' w'.heap.size A' x.ps ∧ x.ps.length ≤ c' ∧ New w.heap.size A' ∧ Below w.heap.size w w' := by
 have hb1 := Box.new w 28 (wlArr x A c)
 have ha1 := (Below.refl w.heap.size w).alloc (Nat.le_refl _) (.cells (wlArr x A c) 28)
 obtain ⟨W1, hW1⟩ : ∃ W1, w.alloc (.cells (wlArr x A c) 28) = W1 := ⟨_, rfl⟩
 have hs1 : W1.heap.size = w.heap.size + 1 := by rw [← hW1, World.size_alloc]
 rw [hW1] at hb1 ha1
 have hb2 := Box.new W1 28 (wlArr zw none 0)
 have ha2 := (Below.refl W1.heap.size W1).alloc (Nat.le_refl _) (.cells (wlArr zw none 0) 28)
 obtain ⟨W2, hW2⟩ : ∃ W2, W1.alloc (.cells (wlArr zw none 0) 28) = W2 := ⟨_, rfl⟩
 have hs2 : W2.heap.size = w.heap.size + 2 := by rw [← hW2, World.size_alloc, hs1]
 rw [hW2] at hb2 ha2
 have hb3 := Box.new W2 28 (wlArr zw none 0)
 have ha3 := (Below.refl W2.heap.size W2).alloc (Nat.le_refl _) (.cells (wlArr zw none 0) 28)
 obtain ⟨W3, hW3⟩ : ∃ W3, W2.alloc (.cells (wlArr zw none 0) 28) = W3 := ⟨_, rfl⟩
 have hs3 : W3.heap.size = w.heap.size + 3 := by rw [← hW3, World.size_alloc, hs2]
 rw [hW3] at hb3 ha3
 rw [hs1] at hb2
 rw [hs2] at hb3
 obtain ⟨g, hg⟩ : ∃ g, w.heap.size = g := ⟨_, rfl⟩
 rw [hg] at hb1 hb2 hb3
 have hx1 : Box W3 g (wlArr x A c) := (hb1.below (ha2.mono (by omega))).below (ha3.mono (by omega))
 have hx2 : Box W3 (g + 1) (wlArr zw none 0) := hb2.below (ha3.mono (by omega))
 have hld1 := load_wlbox (hb1.below (ha2.mono (by omega)))
 obtain ⟨W4, hW4⟩ : ∃ W4, W3.setRow (g + 2) (wlArr x A c) = W4 := ⟨_, rfl⟩
 have hr := Bar.row (g + 2) W3 (wlArr x A c)
 have hy1 : Box W4 g (wlArr x A c) := by rw [← hW4]; exact hr.box hx1 (by omega)
 have hy2 : Box W4 (g + 1) (wlArr zw none 0) := by rw [← hW4]; exact hr.box hx2 (by omega)
 have hy3 : Box W4 (g + 2) (wlArr x A c) := by rw [← hW4]; exact hb3.row _
 have hbw : Below w.heap.size w W4 := by
  rw [← hW4]
  exact hr.below ((ha1.trans (ha2.mono (by omega))).trans (ha3.mono (by omega))) (by omega) (by omega)
 have hs4 : W4.heap.size = g + 3 := by rw [← hW4]; simp; omega
 have HC := Lib.hid (CopyProps_is x.ps A c W4 hm ((h.below hbw).mono hbw.size))
 have c5 : W4.cell? ⟨g, 5, none⟩ = some (.slice A x.ps.length c) := hy1.cell 5
 have HY2 := Lib.hid hy2
 have HY3 := Lib.hid hy3
 have HB3 := Lib.hid hb3
 have HBW := Lib.hid hbw
 have HG := Lib.hid hg
 have HS4 := Lib.hid hs4
 have HW4 := Lib.hid hW4
 have HS2 := Lib.hid hs2
 unfold wlArr at hW1 ⊢
 simp only [wlArr, zw, List.length_nil] at hW2 hW3
 have HW1 := Lib.hid hW1
 have HW2 := Lib.hid hW2
 have HW3 := Lib.hid hW3
 clear h hm hb1 ha1 hb2 ha2 hb3 ha3 hs1 hs2 hs3 hx1 hx2 hr hy1 hy2 hy3 hbw hs4 hg hW1 hW2 hW3 hW4
 go_enter Tryz.func27, Tryz.ntmps27
 go_upto_region 1 with fail
 rw [HW1.out, HW2.out, HG.out]
 have hs2 : W2.heap.size = g + 2 := by rw [HS2.out, HG.out]
 go_upto_region 2 with (first | (refine wpList_load_any (by rfl) 28 (.tmp 1) rfl g 0 rfl _ hld1 ?_) | (rw [HW3.out]; refine wpList_store_whole rfl 28 (.tmp 3) (.tmp 4) rfl (g + 2) (wlArr x A c) rfl rfl (wlArr zw none 0) HB3.out info_wl rfl (one_wl _ _ _) ?_; simp only [Act.put]))
 rw [HW4.out]
 clear hs2 hld1 HW1 HW2 HW3 HW4 HB3 HS2
 go_wp2_with fail
 refine HC.out.mono ?_
 rintro e w5 ⟨A', c', rfl, ho, hb, hle⟩
 have hz2 := HY2.out.below hb
 have hz3 := HY3.out.below hb
 have hP := PropsAt.of_own ho
 have hN := own_new ho
 have d5 : w5.cell? ⟨g + 2, 5, none⟩ = some (.slice A x.ps.length c) := hz3.cell 5
 have f5 := hz3.frozen 5
 have hq3 : Box (w5.setCell ⟨g + 2, 5, none⟩ (.slice A' x.ps.length c')) (g + 2) (wlArr x A' c') := hz3.put 5 _
 have hq2 := Box.far (p := ⟨g + 2, 5, none⟩) hz2 (show g + 1 ≠ g + 2 by omega) (.slice A' x.ps.length c')
 have hbs := Bar.set (g + 2) w5 5 (.slice A' x.ps.length c')
 have hP6 := (props_bar hP (Nat.le_refl _) (hN.off (by have := HS4.out; omega)) hbs).mono hbs.size
 have hB6 := hbs.below (HBW.out.trans (hb.mono HBW.out.size)) (by have := HG.out; omega) (by have := HBW.out.size; have := hb.size; omega)
 have HQ3 := Lib.hid hq3
 have HQ2 := Lib.hid hq2
 have HP6 := Lib.hid hP6
 have HB6 := Lib.hid hB6
 have HN := Lib.hid hN
 have HL := Lib.hid hle
 clear ho hb hle hz2 hz3 hP hN hq3 hq2 hbs hP6 hB6 HY2 HY3 HC c5
 go_upto_region 3 with fail
 clear d5 f5
 generalize World.setCell _ _ _ = W6 at HQ3 HQ2 HP6 HB6 ⊢
 have hld3 := load_wlbox HQ3.out
 go_wp2_with (first | (refine wpList_load_any (by rfl) 28 (.tmp 3) rfl (g + 2) 0 rfl _ hld3 ?_) | (refine wpList_store_whole rfl 28 (.tmp 2) (.tmp 9) rfl (g + 1) (wlArr x A' c') rfl rfl (wlArr zw none 0) HQ2.out info_wl rfl (one_wl _ _ _) ?_; simp only [Act.put]))
 have hbr := Bar.row (g + 1) W6 (wlArr x A' c')
 refine bodyPost_ret (results_wl1 Tryz.results27 rfl (HQ2.out.row (wlArr x A' c'))) rfl ⟨A', c', rfl, (props_bar HP6.out (Nat.le_refl _) (HN.out.off (by have := HS4.out; omega)) hbr).mono hbr.size, HL.out, HN.out.mono (by have := HBW.out.size; omega), hbr.below HB6.out (by have := HG.out; omega) HB6.out.size⟩
structure PkOut (g : Nat) (p : Pk) (a : Ad) : Prop where
 cs : p.cs = [] ∨ Off g a.ca
 fs : p.fs = [] ∨ Off g a.fa
 ws : p.w.ps = [] ∨ Off g a.wa
 ps : p.ps = [] ∨ Off g a.pa
theorem pk_out {w : World} {B g : Nat} {p : Pk} {a : Ad} (h : PkAt w B p a) (hg : B ≤ g) : PkOut g p a := by
 refine ⟨?_, ?_, ?_, ?_⟩
 ·rcases h.cs with h | ⟨x, h1, h2, _⟩
  ·exact .inl h
  ·exact .inr fun y hy => by rw [h1] at hy; cases hy; omega
 ·rcases h.fs with h | ⟨b, o, h1, h2, _⟩
  ·exact .inl h
  ·exact .inr fun y hy => by rw [h1] at hy; cases hy; show b ≠ g; omega
 ·rcases h.ws with h | ⟨b, o, h1, h2, _⟩
  ·exact .inl h
  ·exact .inr fun y hy => by rw [h1] at hy; cases hy; show b ≠ g; omega
 ·rcases h.ps with h | ⟨b, o, h1, h2, _⟩
  ·exact .inl h
  ·exact .inr fun y hy => by rw [h1] at hy; cases hy; show b ≠ g; omega
theorem pk_bar2 {g : Nat} {w w' : World} {p : Pk} {a : Ad} (h : PkAt w w.heap.size p a) (ho : PkOut g p a) (hb : Bar g w w') : PkAt w' w'.heap.size p a :=
 PkAt.mono ⟨ho.cs.elim .inl fun o => nums_bar h.cs (Nat.le_refl _) o hb, ho.fs.elim .inl fun o => fils_bar h.fs (Nat.le_refl _) o hb, ho.ws.elim .inl fun o => props_bar h.ws (Nat.le_refl _) o hb, ho.ps.elim .inl fun o => props_bar h.ps (Nat.le_refl _) o hb⟩ hb.size
@[irreducible] def CP (w : World) (g : Nat) (p : Pk) (a a' : Ad) (W : World) : Prop :=
 (Box W g (pkArr p a) ∧ Box W (g + 1) (pkArr (zp 0) za) ∧ Box W (g + 2) (pkArr p a')) ∧ (PkAt W g p a ∧ PkAt W W.heap.size p a') ∧ (PkOut (g + 1) p a' ∧ PkOut (g + 2) p a') ∧ PkCap p a' ∧ Below g w W ∧ g + 3 ≤ W.heap.size ∧ w.heap.size = g
section
variable {w W W' : World} {g : Nat} {p : Pk} {a a' a'' : Ad}
theorem CP.mk (h : (Box W g (pkArr p a) ∧ Box W (g + 1) (pkArr (zp 0) za) ∧ Box W (g + 2) (pkArr p a')) ∧ (PkAt W g p a ∧ PkAt W W.heap.size p a') ∧ (PkOut (g + 1) p a' ∧ PkOut (g + 2) p a') ∧ PkCap p a' ∧ Below g w W ∧ g + 3 ≤ W.heap.size ∧ w.heap.size = g) : CP w g p a a' W := by unfold CP; exact h
theorem CP.out (h : CP w g p a a' W) : (Box W g (pkArr p a) ∧ Box W (g + 1) (pkArr (zp 0) za) ∧ Box W (g + 2) (pkArr p a')) ∧ (PkAt W g p a ∧ PkAt W W.heap.size p a') ∧ (PkOut (g + 1) p a' ∧ PkOut (g + 2) p a') ∧ PkCap p a' ∧ Below g w W ∧ g + 3 ≤ W.heap.size ∧ w.heap.size = g := by unfold CP at h; exact h
theorem CP.at (h : CP w g p a a' W) : PkAt W W.heap.size p a := h.out.2.1.1.mono (by have := h.out.2.2.2.2.2.1; omega)
theorem CP.below (h : CP w g p a a' W) (hb : Below W.heap.size W W') : CP w g p a a' W' := by
 obtain ⟨⟨h1, h2, h3⟩, ⟨h4, h5⟩, h6, h7, h8, h9, h10⟩ := h.out
 exact .mk ⟨⟨h1.below hb, h2.below hb, h3.below hb⟩, ⟨h4.below (hb.mono (by omega)), (h5.below hb).mono hb.size⟩, h6, h7, h8.trans (hb.mono (by omega)), Nat.le_trans h9 hb.size, h10⟩
theorem CP.put (h : CP w g p a a' W) (i : Nat) (v : Value) (a'' : Ad) (he : (pkArr p a').setIfInBounds i v = pkArr p a'') (hat : PkAt W W.heap.size p a'') (ho : PkOut (g + 1) p a'' ∧ PkOut (g + 2) p a'') (hc : PkCap p a'') : CP w g p a a'' (W.setCell ⟨g + 2, i, none⟩ v) := by
 obtain ⟨⟨h1, h2, h3⟩, ⟨h4, h5⟩, h6, h7, h8, h9, h10⟩ := h.out
 have hs : (W.setCell ⟨g + 2, i, none⟩ v).heap.size = W.heap.size := by simp [World.setCell]
 refine .mk ⟨⟨Box.far (p := ⟨g + 2, i, none⟩) h1 (show g ≠ g + 2 by omega) v, Box.far (p := ⟨g + 2, i, none⟩) h2 (show g + 1 ≠ g + 2 by omega) v, ?_⟩, ⟨h4.below ((Below.refl g W).setCell (p := ⟨g + 2, i, none⟩) (by show g ≤ g + 2; omega) v), pk_bar2 hat ho.2 (Bar.set _ _ _ _)⟩, ho, hc, h8.setCell (p := ⟨g + 2, i, none⟩) (by show g ≤ g + 2; omega) v, by omega, h10⟩
 rw [← he]
 exact h3.put i v
theorem CP.same (h : CP w g p a a' W) (i : Nat) (v : Value) (he : (pkArr p a').setIfInBounds i v = pkArr p a') : CP w g p a a' (W.setCell ⟨g + 2, i, none⟩ v) :=
 h.put i v a' he h.out.2.1.2 h.out.2.2.1 h.out.2.2.2.1
theorem CP.codes (h : CP w g p a a' W) {A : Option Addr} {c : Nat} (hl : Nums W W.heap.size .i64 A p.cs) (hn : New (g + 3) A) (hc : p.cs.length ≤ c) : CP w g p a { a' with ca := A, cc := c } (W.setCell ⟨g + 2, 9, none⟩ (.slice A p.cs.length c)) := by
 obtain ⟨⟨h1, h2, h3⟩, ⟨h4, h5⟩, ⟨h6, h7⟩, h8, _⟩ := h.out
 exact h.put 9 _ _ rfl ⟨hl, h5.fs, h5.ws, h5.ps⟩ ⟨⟨.inr (hn.off (by omega)), h6.fs, h6.ws, h6.ps⟩, ⟨.inr (hn.off (by omega)), h7.fs, h7.ws, h7.ps⟩⟩ ⟨hc, h8.fs, h8.ws, h8.ps⟩
theorem CP.filters (h : CP w g p a a' W) {A : Option Addr} {c : Nat} (hl : FilsAt W W.heap.size A p.fs) (hn : New (g + 3) A) (hc : p.fs.length ≤ c) : CP w g p a { a' with fa := A, fc := c } (W.setCell ⟨g + 2, 10, none⟩ (.slice A p.fs.length c)) := by
 obtain ⟨⟨h1, h2, h3⟩, ⟨h4, h5⟩, ⟨h6, h7⟩, h8, _⟩ := h.out
 exact h.put 10 _ _ rfl ⟨h5.cs, hl, h5.ws, h5.ps⟩ ⟨⟨h6.cs, .inr (hn.off (by omega)), h6.ws, h6.ps⟩, ⟨h7.cs, .inr (hn.off (by omega)), h7.ws, h7.ps⟩⟩ ⟨h8.cs, hc, h8.ws, h8.ps⟩
theorem CP.props (h : CP w g p a a' W) {A : Option Addr} {c : Nat} (hl : PropsAt W W.heap.size A p.ps) (hn : New (g + 3) A) (hc : p.ps.length ≤ c) : CP w g p a { a' with pa := A, pc := c } (W.setCell ⟨g + 2, 24, none⟩ (.slice A p.ps.length c)) := by
 obtain ⟨⟨h1, h2, h3⟩, ⟨h4, h5⟩, ⟨h6, h7⟩, h8, _⟩ := h.out
 exact h.put 24 _ _ rfl ⟨h5.cs, h5.fs, h5.ws, hl⟩ ⟨⟨h6.cs, h6.fs, h6.ws, .inr (hn.off (by omega))⟩, ⟨h7.cs, h7.fs, h7.ws, .inr (hn.off (by omega))⟩⟩ ⟨h8.cs, h8.fs, h8.ws, hc⟩
theorem CP.wprops (h : CP w g p a a' W) {A : Option Addr} {c : Nat} (hl : PropsAt W W.heap.size A p.w.ps) (hn : New (g + 3) A) (hc : p.w.ps.length ≤ c) : CP w g p a { a' with wa := A, wc := c } (W.setCell ⟨g + 2, 19, none⟩ (.slice A p.w.ps.length c)) := by
 obtain ⟨⟨h1, h2, h3⟩, ⟨h4, h5⟩, ⟨h6, h7⟩, h8, _⟩ := h.out
 exact h.put 19 _ _ rfl ⟨h5.cs, h5.fs, hl, h5.ps⟩ ⟨⟨h6.cs, h6.fs, .inr (hn.off (by omega)), h6.ps⟩, ⟨h7.cs, h7.fs, .inr (hn.off (by omega)), h7.ps⟩⟩ ⟨h8.cs, h8.fs, hc, h8.ps⟩
theorem CP.will (h : CP w g p a a' W) {A : Option Addr} {c : Nat} (hl : PropsAt W W.heap.size A p.w.ps) (hn : New (g + 3) A) (hc : p.w.ps.length ≤ c) : CP w g p a { a' with wa := A, wc := c } (W.setCells (g + 2) 14 (wlArr p.w A c).toList) := by
 have b1 := Bar.set (g + 2) W 14 (.bool p.w.has)
 have b2 := b1.trans (Bar.set (g + 2) _ 15 (.int .i64 p.w.q))
 have b3 := b2.trans (Bar.set (g + 2) _ 16 (.bool p.w.ret))
 have b4 := b3.trans (Bar.set (g + 2) _ 17 (.string p.w.t))
 have b5 := b4.trans (Bar.set (g + 2) _ 18 (.string p.w.b))
 exact (((((h.same 14 (.bool p.w.has) rfl).same 15 (.int .i64 p.w.q) rfl).same 16 (.bool p.w.ret) rfl).same 17 (.string p.w.t) rfl).same 18 (.string p.w.b) rfl).wprops ((props_bar hl (Nat.le_refl _) (hn.off (by omega)) b5).mono b5.size) hn hc
theorem CP.arg (h : CP w g p a a' W) (i : Nat) : W.cell? ⟨g, i, none⟩ = (pkArr p a)[i]? := h.out.1.1.cell i
theorem CP.non (h : CP w g p a a' W) (i : Nat) : W.cell? ⟨g + 2, i, none⟩ = (pkArr p a')[i]? := h.out.1.2.2.cell i
theorem CP.nfz (h : CP w g p a a' W) (i : Nat) : W.frozen? ⟨g + 2, i, none⟩ = false := h.out.1.2.2.frozen i
theorem CP.there (h : CP w g p a a' W) : W.there (g + 2) 14 6 := fun j hj => by
 refine ⟨?_, h.nfz _⟩
 rw [h.non]
 match j, hj with
 | 0, _ => rfl
 | 1, _ => rfl
 | 2, _ => rfl
 | 3, _ => rfl
 | 4, _ => rfl
 | 5, _ => rfl
theorem CP.new (h : CP w g p a a' W) {A : Option Addr} (hn : New W.heap.size A) : New (g + 3) A := hn.mono h.out.2.2.2.2.2.1
end
structure PkReach (p : Pk) : Prop where
 cs : p.cs.length * 8 ≤ 140737488351232
 fs : p.fs.length * 40 ≤ 140737488351232
 ws : p.w.ps.length * 48 ≤ 140737488351232
 ps : p.ps.length * 48 ≤ 140737488351232
theorem CopyPacket_is (p : Pk) (a : Ad) (w : World) (hm : PkReach p) (hf : PkFit p a) (h : PkAt w w.heap.size p a) :
  Calls Tryz.prog 7 #[.agg (pkArr p a)] w fun e w' => ∃ a', e = .returned (.agg (pkArr p a')) ∧ PkAt w' w'.heap.size p a' ∧ PkCap p a' ∧ Below w.heap.size w w' := by
 have HM := Lib.hid hm
 have hcap : PkCap p a := ⟨hf.cl1.2, hf.fl1.2, hf.wl1.2, hf.pl1.2⟩
 have hb1 := Box.new w 30 (pkArr p a)
 have ha1 := (Below.refl w.heap.size w).alloc (Nat.le_refl _) (.cells (pkArr p a) 30)
 obtain ⟨W1, hW1⟩ : ∃ W1, w.alloc (.cells (pkArr p a) 30) = W1 := ⟨_, rfl⟩
 have hs1 : W1.heap.size = w.heap.size + 1 := by rw [← hW1, World.size_alloc]
 rw [hW1] at hb1 ha1
 have hb2 := Box.new W1 30 (pkArr (zp 0) za)
 have ha2 := (Below.refl W1.heap.size W1).alloc (Nat.le_refl _) (.cells (pkArr (zp 0) za) 30)
 obtain ⟨W2, hW2⟩ : ∃ W2, W1.alloc (.cells (pkArr (zp 0) za) 30) = W2 := ⟨_, rfl⟩
 have hs2 : W2.heap.size = w.heap.size + 2 := by rw [← hW2, World.size_alloc, hs1]
 rw [hW2] at hb2 ha2
 have hb3 := Box.new W2 30 (pkArr (zp 0) za)
 have ha3 := (Below.refl W2.heap.size W2).alloc (Nat.le_refl _) (.cells (pkArr (zp 0) za) 30)
 obtain ⟨W3, hW3⟩ : ∃ W3, W2.alloc (.cells (pkArr (zp 0) za) 30) = W3 := ⟨_, rfl⟩
 have hs3 : W3.heap.size = w.heap.size + 3 := by rw [← hW3, World.size_alloc, hs2]
 rw [hW3] at hb3 ha3
 rw [hs1] at hb2
 rw [hs2] at hb3
 obtain ⟨g, hg⟩ : ∃ g, w.heap.size = g := ⟨_, rfl⟩
 rw [hg] at hb1 hb2 hb3
 have hx1 : Box W3 g (pkArr p a) := (hb1.below (ha2.mono (by omega))).below (ha3.mono (by omega))
 have hx2 : Box W3 (g + 1) (pkArr (zp 0) za) := hb2.below (ha3.mono (by omega))
 have hld1 := load_bx (hb1.below (ha2.mono (by omega)))
 obtain ⟨W4, hW4⟩ : ∃ W4, W3.setRow (g + 2) (pkArr p a) = W4 := ⟨_, rfl⟩
 have hr := Bar.row (g + 2) W3 (pkArr p a)
 have hy1 : Box W4 g (pkArr p a) := by rw [← hW4]; exact hr.box hx1 (by omega)
 have hy2 : Box W4 (g + 1) (pkArr (zp 0) za) := by rw [← hW4]; exact hr.box hx2 (by omega)
 have hy3 : Box W4 (g + 2) (pkArr p a) := by rw [← hW4]; exact hb3.row _
 have hbw : Below w.heap.size w W4 := by
  rw [← hW4]
  exact hr.below ((ha1.trans (ha2.mono (by omega))).trans (ha3.mono (by omega))) (by omega) (by omega)
 have hs4 : W4.heap.size = g + 3 := by rw [← hW4]; simp; omega
 have hat4 := h.below hbw
 have HCP : Hid (CP w g p a a W4) := by
  show CP w g p a a W4
  rw [hg] at hat4 hbw h
  exact .mk ⟨⟨hy1, hy2, hy3⟩, ⟨hat4, hat4.mono (by omega)⟩, ⟨pk_out h (by omega), pk_out h (by omega)⟩, hcap, hbw, by omega, hg⟩
 have HB3 := Lib.hid hb3
 have HG := Lib.hid hg
 have HW4 := Lib.hid hW4
 have HS2 := Lib.hid hs2
 unfold pkArr at hW1 ⊢
 simp only [pkArr, zp, za, zw, List.length_nil] at hW2 hW3
 have HW1 := Lib.hid hW1
 have HW2 := Lib.hid hW2
 have HW3 := Lib.hid hW3
 clear h hm hf hcap hat4 hb1 ha1 hb2 ha2 hb3 ha3 hs1 hs2 hs3 hx1 hx2 hr hy1 hy2 hy3 hbw hs4 hg hW1 hW2 hW3 hW4
 go_enter Tryz.func7, Tryz.ntmps7
 go_upto_region 1 with fail
 rw [HW1.out, HW2.out, HG.out]
 have hs2 : W2.heap.size = g + 2 := by rw [HS2.out, HG.out]
 generalize Value.agg _ = v0
 go_upto_region 2 with (first | (refine wpList_load_any (by rfl) 30 (.tmp 1) rfl g 0 rfl _ hld1 ?_) | (rw [HW3.out]; refine wpList_store_whole rfl 30 (.tmp 3) (.tmp 4) rfl (g + 2) (pkArr p a) rfl rfl (pkArr (zp 0) za) HB3.out info_pk rfl (one_pk _ _) ?_; simp only [Act.put]))
 rw [HW4.out]
 clear hs2 hld1 HW1 HW2 HW3 HW4 HB3 HS2
 generalize Value.agg _ = v4
 have HC := Lib.hid (CopyNumbers_is p.cs a.ca a.cc W4 HM.out.cs HCP.out.at.cs)
 have c9 : W4.cell? ⟨g, 9, none⟩ = some (.slice a.ca p.cs.length a.cc) := HCP.out.arg 9
 go_wp2_with fail
 refine HC.out.mono ?_
 rintro e w5 ⟨A1, c1, rfl, ho, hb, hle⟩
 have h5 := HCP.out.below hb
 have d9 : w5.cell? ⟨g + 2, 9, none⟩ = some (.slice a.ca p.cs.length a.cc) := h5.non 9
 have f9 := h5.nfz 9
 have HCP6 := Lib.hid (h5.codes (.of_own ho) (HCP.out.new (own_new ho)) hle)
 clear ho hb hle h5 HCP HC c9
 go_upto_region 3 with fail
 clear d9 f9
 generalize World.setCell _ _ _ = W6 at HCP6 ⊢
 have HC := Lib.hid (CopyFilters_is p.fs a.fa a.fc W6 HM.out.fs HCP6.out.at.fs)
 have c10 : W6.cell? ⟨g, 10, none⟩ = some (.slice a.fa p.fs.length a.fc) := HCP6.out.arg 10
 go_wp2_with fail
 refine HC.out.mono ?_
 rintro e w7 ⟨A2, c2, rfl, ho, hb, hle⟩
 have h7 := HCP6.out.below hb
 have d10 : w7.cell? ⟨g + 2, 10, none⟩ = some (.slice a.fa p.fs.length a.fc) := h7.non 10
 have f10 := h7.nfz 10
 have HCP8 := Lib.hid (h7.filters (.of_own ho) (HCP6.out.new (own_new ho)) hle)
 clear ho hb hle h7 HCP6 HC c10
 go_upto_region 4 with fail
 clear d10 f10
 generalize World.setCell _ _ _ = W8 at HCP8 ⊢
 have HC := Lib.hid (CopyWill_is p.w a.wa a.wc W8 HM.out.ws HCP8.out.at.ws)
 have hlw := load_wl HCP8.out.out.1.1
 go_wp2_with (refine wpList_load_any (by rfl) 28 (.tmp 13) rfl g 14 rfl _ hlw ?_)
 refine HC.out.mono ?_
 rintro e w9 ⟨A3, c3, rfl, hP, hle, hN, hb⟩
 have h9 := HCP8.out.below hb
 have HT := Lib.hid h9.there
 have HCP10 := Lib.hid (h9.will hP (HCP8.out.new hN) hle)
 clear hP hb hle hN h9 HCP8 HC hlw
 go_upto_region 5 with (refine wpList_store_mid rfl 28 (.tmp 16) (.tmp 15) rfl (g + 2) 14 (wlArr p.w A3 c3) rfl rfl HT.out info_wl (one_wl _ _ _) ?_; simp only [Act.put])
 clear HT
 generalize World.setCells _ _ _ _ = W10 at HCP10 ⊢
 have HC := Lib.hid (CopyProps_is p.ps a.pa a.pc W10 HM.out.ps HCP10.out.at.ps)
 have c24 : W10.cell? ⟨g, 24, none⟩ = some (.slice a.pa p.ps.length a.pc) := HCP10.out.arg 24
 go_wp2_with fail
 refine HC.out.mono ?_
 rintro e w11 ⟨A4, c4, rfl, ho, hb, hle⟩
 have h11 := HCP10.out.below hb
 have d24 : w11.cell? ⟨g + 2, 24, none⟩ = some (.slice a.pa p.ps.length a.pc) := h11.non 24
 have f24 := h11.nfz 24
 have HCP12 := Lib.hid (h11.props (.of_own ho) (HCP10.out.new (own_new ho)) hle)
 clear ho hb hle h11 HCP10 HC c24
 go_upto_region 6 with fail
 clear d24 f24
 generalize World.setCell _ _ _ = W12 at HCP12 ⊢
 have hld3 := load_bx HCP12.out.out.1.2.2
 have HQ2 := Lib.hid HCP12.out.out.1.2.1
 go_wp2_with (first | (refine wpList_load_any (by rfl) 30 (.tmp 3) rfl (g + 2) 0 rfl _ hld3 ?_) | (refine wpList_store_whole rfl 30 (.tmp 2) (.tmp 21) rfl (g + 1) (pkArr p ⟨A1, c1, A2, c2, A3, c3, A4, c4⟩) rfl rfl (pkArr (zp 0) za) HQ2.out info_pk rfl (one_pk _ _) ?_; simp only [Act.put]))
 obtain ⟨_, ⟨_, k5⟩, ⟨k6, _⟩, k7, k8, k9, k10⟩ := HCP12.out.out
 have hbr := Bar.row (g + 1) W12 (pkArr p ⟨A1, c1, A2, c2, A3, c3, A4, c4⟩)
 refine bodyPost_ret (results_pk1 Tryz.results7 rfl (HQ2.out.row (pkArr p ⟨A1, c1, A2, c2, A3, c3, A4, c4⟩))) rfl ⟨_, rfl, pk_bar2 k5 k6 hbr, k7, ?_⟩
 rw [k10]
 exact hbr.below k8 (by omega) (by omega)
open Go.RowKit Go.Lib Prp Pkt
theorem bytes_int : Tryz.prog.bytesOf 3 = 8 := by kernel_rfl
theorem bytes_filter : Tryz.prog.bytesOf 75 = 40 := by kernel_rfl
theorem bytes_prop : Tryz.prog.bytesOf 99 = 48 := by kernel_rfl
section
variable {H : Type} {enc : TypeId × Value → H} {W : World} {base : Nat} {spare : Nat → Bool} {held : Bool}
theorem near_len {t e : TypeId} {fuel : Nat} {A : Option Addr} {n c k : Nat} {y : DataW H × List MemPlace} (hu : Tryz.prog.underlying t = some (.slice e)) (hk : Tryz.prog.bytesOf e = k) (hw : Near t y.1) (h : DataW.trod enc Tryz.prog W base spare held fuel t [.slice A n c] = some y) : n * k ≤ 140737488351232 := by
 rcases Go.Deep.open_slice hu h with ⟨hcs, _⟩ | ⟨a, len, cap, m, k', D, Pl, hcs, _, _, _, _, hx, _⟩
 ·simp at hcs
  rw [hcs.2.1]
  omega
 ·simp at hcs
  obtain ⟨_, rfl, _⟩ := hcs
  rw [hx] at hw
  have h1 := hw _ (by rw [DataW.weights, hu]; exact List.mem_cons_self)
  rw [List.length_map, List.length_range, hk] at h1
  exact Nat.le_trans (Nat.mul_le_mul_right k (Nat.le_add_right _ _)) h1
theorem packet_reach {fuel : Nat} {p : Pk} {a : Ad} {y : DataW H × List MemPlace} (hw : Near 30 y.1) (h : DataW.trod enc Tryz.prog W base spare held fuel 30 (pkArr p a).toList = some y) : PkReach p := by
 obtain ⟨ys, n, _, hy, _, hyl, hf⟩ := DataW.trod_struct Tryz.underlying30 h
 subst hy
 have hyl' : ys.length = 20 := by simpa using hyl
 have f9 := hf 9 _ rfl
 have f10 := hf 10 _ rfl
 have f14 := hf 14 _ rfl
 have f19 := hf 19 _ rfl
 clear hf
 rw [List.getElem?_eq_getElem (by omega)] at f9 f10 f14 f19
 change DataW.trod enc Tryz.prog W base spare held n 24 (List.take (Tryz.prog.cellsOf 24) (List.drop 9 (pkArr p a).toList)) = _ at f9
 rw [cells_ints] at f9
 have f9 : DataW.trod enc Tryz.prog W base spare held n 24 [.slice a.ca p.cs.length a.cc] = _ := f9
 have n9 := near_field Tryz.underlying30 hw (j := 9) rfl rfl (List.getElem?_eq_getElem (by omega))
 change DataW.trod enc Tryz.prog W base spare held n 25 (List.take (Tryz.prog.cellsOf 25) (List.drop 10 (pkArr p a).toList)) = _ at f10
 rw [cells_filters] at f10
 have f10 : DataW.trod enc Tryz.prog W base spare held n 25 [.slice a.fa p.fs.length a.fc] = _ := f10
 have n10 := near_field Tryz.underlying30 hw (j := 10) rfl rfl (List.getElem?_eq_getElem (by omega))
 change DataW.trod enc Tryz.prog W base spare held n 26 (List.take (Tryz.prog.cellsOf 26) (List.drop 24 (pkArr p a).toList)) = _ at f19
 rw [cells_props] at f19
 have f19 : DataW.trod enc Tryz.prog W base spare held n 26 [.slice a.pa p.ps.length a.pc] = _ := f19
 have n19 := near_field Tryz.underlying30 hw (j := 19) rfl rfl (List.getElem?_eq_getElem (by omega))
 change DataW.trod enc Tryz.prog W base spare held n 28 (List.take (Tryz.prog.cellsOf 28) (List.drop 14 (pkArr p a).toList)) = _ at f14
 rw [cells_will] at f14
 have f14 : DataW.trod enc Tryz.prog W base spare held n 28 (wlArr p.w a.wa a.wc).toList = _ := f14
 have n14 := near_field Tryz.underlying30 hw (j := 14) rfl rfl (List.getElem?_eq_getElem (by omega))
 obtain ⟨zs, m, _, hz, _, hzl, hg⟩ := DataW.trod_struct Tryz.underlying28 f14
 rw [hz] at n14
 have hzl' : zs.length = 6 := by simpa using hzl
 have g5 := hg 5 _ rfl
 clear hg
 rw [List.getElem?_eq_getElem (by omega)] at g5
 change DataW.trod enc Tryz.prog W base spare held m 26 (List.take (Tryz.prog.cellsOf 26) (List.drop 5 (wlArr p.w a.wa a.wc).toList)) = _ at g5
 rw [cells_props] at g5
 have g5 : DataW.trod enc Tryz.prog W base spare held m 26 [.slice a.wa p.w.ps.length a.wc] = _ := g5
 have n5 := near_field Tryz.underlying28 n14 (j := 5) rfl rfl (List.getElem?_eq_getElem (by omega))
 exact ⟨near_len Tryz.underlying24 bytes_int n9 f9, near_len Tryz.underlying25 bytes_filter n10 f10, near_len Tryz.underlying26 bytes_prop n5 g5, near_len Tryz.underlying26 bytes_prop n19 f19⟩
theorem one_ask2 {fuel : Nat} {a : Addr} {cs : List Value} {y : DataW H × List MemPlace} (hc : W.cells? base a 26 = some cs) (hw : Near 32 y.1) (h : DataW.trod enc Tryz.prog W base spare held fuel 32 cs = some y) :
  ∃ p c s, AskAt W W.heap.size a.block a.off p c s ∧ PkReach p ∧ a.spot = none := by
 obtain ⟨p, c, s, hat, hsp⟩ := one_ask hc hw h
 refine ⟨p, c, s, hat, ?_, hsp⟩
 obtain ⟨_, hlen, hcell⟩ := World.cells?_some hc
 obtain ⟨ys, n, _, hy, _, hyl, hf⟩ := DataW.trod_struct Tryz.underlying32 h
 subst hy
 have hyl' : ys.length = 2 := by simpa using hyl
 have f0 := hf 0 _ rfl
 clear hf
 rw [List.getElem?_eq_getElem (by omega)] at f0
 change DataW.trod enc Tryz.prog W base spare held n 30 (List.take (Tryz.prog.cellsOf 30) cs) = _ at f0
 rw [cells_packet] at f0
 have e : List.take 25 cs = (pkArr p c).toList := by
  refine List.ext_getElem? fun j => ?_
  by_cases hj : j < 25
  ·rw [List.getElem?_take_of_lt hj]
   obtain ⟨b, off, spot⟩ := a
   obtain rfl : spot = none := hsp
   have h1 := hcell j (by omega)
   rw [add_off] at h1
   obtain ⟨v, hv⟩ : ∃ v, (pkArr p c)[j]? = some v := ⟨_, Array.getElem?_eq_getElem (by show j < 25; exact hj)⟩
   have h2 := hat.cells j v hv
   rw [h1] at h2
   exact h2.trans (hv.symm.trans (Array.getElem?_toList ..).symm)
  ·rw [List.getElem?_eq_none (by rw [List.length_take]; omega), List.getElem?_eq_none (by show 25 ≤ j; omega)]
 rw [e] at f0
 exact packet_reach (near_field Tryz.underlying32 hw (j := 0) rfl rfl (List.getElem?_eq_getElem (by omega))) f0
def AsksR (w : World) (A : Option Addr) (n : Nat) : Prop :=
 n = 0 ∨ ∃ b off, A = some ⟨b, off, none⟩ ∧ ∀ i, i < n → ∃ p a s, AskAt w w.heap.size b (off + i * 26) p a s ∧ PkReach p
theorem asks2_of_trod {A : Option Addr} {n c : Nat} {d : DataW H} {p : List MemPlace} (hw : Near 22 d) (h : DataW.Trod enc Tryz.prog W base (fun _ => true) held 22 (.slice A n c) d p) : AsksR W A n := by
 obtain ⟨fuel, hf⟩ := h
 rcases Go.Deep.open_slice Tryz.underlying22 hf with ⟨hcs, _⟩ | ⟨a, len, cap, m, k, D, Pl, hcs, _, hl, _, hm, hx, hi⟩
 ·simp [Value.cells] at hcs
  exact .inl hcs.2.1
 ·simp [Value.cells] at hcs
  obtain ⟨rfl, rfl, rfl⟩ := hcs
  simp at hm
  subst hm
  by_cases h0 : n = 0
  ·exact .inl h0
  ·right
   rw [cells_ask] at hi
   have key : ∀ i, i < n → ∃ p c s, AskAt W W.heap.size (a.add (i * 26)).block (a.add (i * 26)).off p c s ∧ PkReach p ∧ (a.add (i * 26)).spot = none := fun i hin => by
    obtain ⟨cs, hc, ht⟩ := hi i (by omega)
    refine one_ask2 hc ?_ ht
    have hd := congrArg Prod.fst hx
    simp only [] at hd
    rw [hd] at hw
    exact near_elem Tryz.underlying22 hw (List.mem_map.2 ⟨i, List.mem_range.2 (by omega), rfl⟩)
   have hsp : a.spot = none := by
    obtain ⟨_, _, _, _, _, h⟩ := key 0 (by omega)
    simpa [Addr.add] using h
   obtain ⟨b, off, spot⟩ := a
   obtain rfl : spot = none := hsp
   refine ⟨b, off, rfl, fun i hin => ?_⟩
   obtain ⟨p, c, s, h, hr, _⟩ := key i hin
   rw [add_off] at h
   exact ⟨p, c, s, h, hr⟩
end
open Go.RowKit Go.Lib Prp Pkt
theorem wp_store_none {P : Program} {o : Oper} {a : Act} {w w' : World} {K : Act → World → Prop} {Q : Exit → Act → World → Prop} (ty : TypeId) (x y : Operand) (ho : o.op = .store ty x y) (hd : o.dst = none) (p V : Value)
  (hx : a.eval x = p) (hy : a.eval y = V) (hr : (Instr.storeAt ty p V).run P w = .ok () w') (h : K a w') : Oper.wp P o a w K Q := by
 refine wp_store_one ty x y ho p V hx hy hr ?_
 rw [hd]
 exact h
theorem wp_store_mid_none {P : Program} {op : Oper} {a : Act} {w : World} {K : Act → World → Prop} {Q : Exit → Act → World → Prop} (ty : TypeId) (x y : Operand) (ho : op.op = .store ty x y) (hd : op.dst = none)
  (b o : Nat) (cells : Array Value) (hx : a.eval x = .pointer (some ⟨b, o, none⟩)) (hy : a.eval y = .agg cells)
  (ht : w.there b o cells.size) (hi : (P.info? ty).map (·.size) = some cells.size) (h1 : cells.all (·.oneCell') = true)
  (h : K a (w.setCells b o cells.toList)) : op.wp P a w K Q := by
 refine wp_store_mid ty x y ho b o cells hx hy ht hi h1 ?_
 rw [hd]
 exact h
open Go.RowKit Go.Lib Prp Pkt Vbi
theorem neq_fils (t t' : ByteArray) (q q' h h' : Int) (n n' r r' : Bool) (w : World) :
  (binOp .neq 75 (.agg #[.string t, .int .i64 q, .bool n, .bool r, .int .i64 h]) (.agg #[.string t', .int .i64 q', .bool n', .bool r', .int .i64 h'])).run Tryz.prog w = .ok (.bool (!eqF ⟨t, q, n, r, h⟩ ⟨t', q', n', r', h'⟩)) w := by
 rw [run_neq_struct]
 unfold eqF
 by_cases h1 : t = t' <;> by_cases h2 : q = q' <;> by_cases h3 : n = n' <;> by_cases h4 : r = r' <;> by_cases h5 : h = h' <;> (try go_simp)
 all_goals simp [h1, toList_eq_iff]
theorem rest_asks (p : Pk) (a : Ad) (S : ByteArray) (w : World) (h : PkAt w w.heap.size p a) (hk : p.kind = 8 ∨ p.kind = 10) (hg : goodP p = true) (hS : restP p = S) :
  Calls Tryz.prog 39 #[.agg (pkArr p a)] w fun e w' => e = .returned (.string S) ∧ Below w.heap.size w w' := by
 obtain ⟨h1, h2⟩ := parts_of p (l := [.number p.id, .props p.kind p.ps] ++ filterL (decide (p.kind = 8)) p.fs) hg (by unfold partsL; rw [if_neg (by omega), if_neg (by omega), if_neg (by omega), if_neg (by omega), if_pos (by omega)])
 have ha := ask_fits ((may_parts (good_parts hg).1).2.2.1 hk)
 rw [allOk_app, Bool.and_eq_true] at h1
 have h3 := h1.1
 unfold allOk at h3
 simp only [List.all_cons, List.all_nil, Bool.and_eq_true, Bool.and_true] at h3
 have hs : (fxStr p.id ++ propStr p.ps) ++ allStr (filterL (decide (p.kind = 8)) p.fs) = S := by
  rw [← hS, h2, allStr_app, allStr_cons, allStr_cons, allStr_nil, add_empty]; rfl
 have ht : ∀ f ∈ p.fs, f.t.size ≤ 1024 := fun f hf => by
  have h4 := h1.2
  unfold allOk at h4
  rw [List.all_eq_true] at h4
  refine text_size (h4 (.words f.t) ?_)
  unfold filterL
  rw [List.mem_flatMap]
  refine ⟨f, hf, ?_⟩
  split <;> simp
 rcases hk with k | k
 ·rw [show decide (p.kind = 8) = true from decide_eq_true k] at hs
  exact rest_8 p a S w h k (num_part h3.1) h3.2 ha.1 (fun f hf => ⟨(ha.2 f hf).1, (ha.2 f hf).2, ht f hf⟩) hs
 ·rw [show decide (p.kind = 8) = false from decide_eq_false (by omega)] at hs
  exact rest_10 p a S w h k (num_part h3.1) h3.2 ha.1 (fun f hf => ⟨(ha.2 f hf).1, (ha.2 f hf).2, ht f hf⟩) hs
theorem RB_8 (p : Pk) (a : Ad) (S : ByteArray) (w : World) (h : PkAt w w.heap.size p a) (hk : p.kind = 8) (hg : goodP p = true) (hS : strP p = S) :
  Calls Tryz.prog 10 #[.agg (pkArr p a)] w fun e w' => e = .returned (.string S) ∧ Below w.heap.size w w' :=
 RBytes_of p a S w h hg hS fun R W h hR => rest_asks p a R W h (.inl hk) hg hR
theorem RB_10 (p : Pk) (a : Ad) (S : ByteArray) (w : World) (h : PkAt w w.heap.size p a) (hk : p.kind = 10) (hg : goodP p = true) (hS : strP p = S) :
  Calls Tryz.prog 10 #[.agg (pkArr p a)] w fun e w' => e = .returned (.string S) ∧ Below w.heap.size w w' :=
 RBytes_of p a S w h hg hS fun R W h hR => rest_asks p a R W h (.inr hk) hg hR
end Go.Proofs.YtdbbcfohjkgdcaaGreat
