/- Package subs: the subscription of a topic found, taken away. -/
import Derived.Test.YtdogeljlcnlbkaaSubPut
import Derived.Test.YtdogeljlcnlbkaaSubDelete
namespace Go.Proofs.Ytdogeljlcnlbkaa.Sbs
open Go.RowKit Go.Lib Txt Nam

/-- Where a row of the call's own lies. -/
theorem own_where {w : World} {B n c : Nat} {e : TypeId} {A : Option Addr} {xs : List Value} (h : w.ownsRow B e 9 (.slice A n c) n xs) (hn : 0 < n) : ∃ g, A = some ⟨g, 0, none⟩ ∧ B ≤ g ∧ g < w.heap.size ∧ n ≤ c ∧ c ≤ 9223372036854775807 := by
  rcases h.2 with ⟨_, h0⟩ | ⟨g, cap, cur, hv, hb, hg, hle, hcm, _, _⟩
  · omega
  · injection hv with h1 _ h3
    subst h3
    refine ⟨g, h1, hb, (Array.getElem?_eq_some_iff.1 hg).1, hle, ?_⟩
    unfold maxLen at hcm
    omega

set_option maxRecDepth 100000 in
set_option maxHeartbeats 2000000 in
/-- subs.placeOf. -/
theorem placeOf_is (l : List Sb) (A : Option Addr) (c : Nat) (x : List UInt8) (a : Nat) (was : Bool) (w : World) (h : SubsAt w w.heap.size A l) (hm : May l) (hp : Place l x a was) :
    Calls Try.prog 18 #[.slice A l.length c, .string (str x)] w fun e w' => e = .returned (.tuple #[.int .i64 (if was = true then (a : Int) else 0), .int .i64 (if was = true then 0 else 3)]) ∧ Below w.heap.size w w' := by
  have hl := hm.few
  have HC := Lib.hid (Check_is l A c w h hm)
  have HS := Lib.hid (fun W (hb : Below w.heap.size w W) => search_is l A c x a was W (by omega) (h.on hb) hp)
  clear h hm hp
  generalize str x = sx at HS ⊢
  go_enter Try.func18, Try.ntmps18
  go_wp2_with fail
  refine HC.out.mono ?_
  rintro e w1 ⟨rfl, hb1⟩
  have HX1 := Lib.hid hb1
  clear hb1
  go_wp2_with fail
  refine (HS.out _ HX1.out).mono ?_
  rintro e w2 ⟨rfl, hb2⟩
  have HX2 := Lib.hid (HX1.out.trans (hb2.mono HX1.out.size))
  clear hb2 HS
  cases was with
  | false =>
    go_wp2_with fail
    go_ret2
    exact ⟨rfl, HX2.out⟩
  | true =>
    go_wp2_with fail
    go_ret2
    exact ⟨rfl, HX2.out⟩

set_option maxRecDepth 100000 in
set_option maxHeartbeats 2000000 in
/-- subs.Find, of a topic that is there. -/
theorem Find_yes (l : List Sb) (A : Option Addr) (c : Nat) (x : List UInt8) (a : Nat) (s : Sb) (w : World) (h : SubsAt w w.heap.size A l) (hm : May l) (hp : Place l x a true) (ha : a < l.length) (hs : l[a] = s) :
    Calls Try.prog 7 #[.slice A l.length c, .string (str x)] w fun e w' => e = .returned (.tuple #[sagg s, .int .i64 0]) ∧ Below w.heap.size w w' := by
  have hf := hm.fine _ (List.getElem_mem ha)
  rw [hs] at hf
  have hl := hm.few
  have HK := Lib.hid (fun W => copyOf_is s W hf.len)
  have HP := Lib.hid (fun W (hb : Below w.heap.size w W) => placeOf_is l A c x a true W (h.on hb) hm hp)
  obtain ⟨b0, o, rfl, hb0, hc⟩ := h.some_ (by omega)
  have hld := fun W (hb : Below w.heap.size w W) => load_at (((h.below hb).some_ (by omega)).elim fun b1 ⟨o1, e1, _, h2⟩ => by
    injection e1 with e1
    injection e1 with e2 e3
    subst e2 e3
    have := h2 a ha
    rw [hs] at this
    exact this)
  have HL := Lib.hid hld
  have hb1 := (Below.refl w.heap.size w).alloc (Nat.le_refl _) (.cells zcells 33)
  have HB := Lib.hid (Blk.new w 33 zcells)
  have HX := Lib.hid hb1
  clear hld hb1 hf hc h hm hp hs
  obtain ⟨W0, hW⟩ : ∃ W0, w.alloc (.cells zcells 33) = W0 := ⟨_, rfl⟩
  rw [hW] at HB HX
  unfold zcells at hW
  have HW := Lib.hid hW
  clear hW
  generalize str x = sx at HP ⊢
  have haI : (a : Int) < (l.length : Int) := by omega
  go_enter Try.func7, Try.ntmps7
  go_upto_region 1 with fail
  rw [HW.out]
  obtain ⟨g, hg⟩ : ∃ g, w.heap.size = g := ⟨_, rfl⟩
  have HG := Lib.hid hg
  rw [hg] at HB ⊢
  clear hg HW
  go_wp2_with fail
  refine (HP.out _ HX.out).mono ?_
  rintro e w1 ⟨rfl, hb1⟩
  have HX1 := Lib.hid (HX.out.trans (hb1.mono HX.out.size))
  have HB1 := Lib.hid (HB.out.below hb1)
  have hld := HL.out _ HX1.out
  clear hb1 HX HB HP
  simp only [if_pos]
  go_wp2_with (refine wpList_load_any (by rfl) 33 (.tmp 20) rfl b0 (o + a * 9) rfl _ hld ?_; simp only [Act.put])
  refine (HK.out _).mono ?_
  rintro e w2 ⟨rfl, hb2⟩
  have HX2 := Lib.hid (HX1.out.trans (hb2.mono HX1.out.size))
  have HB2 := Lib.hid (HB1.out.below hb2)
  clear hb2 HX1 HB1 hld
  have HR := Lib.hid (HB2.out.row (scells s).toArray)
  have HX3 := Lib.hid (below_row (g := g) (ds := (scells s).toArray) HX2.out (by have := HG.out; omega))
  go_wp2_with (refine wpList_store_whole rfl 33 (.tmp 4) (.tmp 22) rfl g (scells s).toArray rfl rfl _ HB2.out info_sub rfl (one_sub s) ?_; simp only [Act.put])
  refine bodyPost_ret (v := .tuple #[.agg (scells s).toArray, .int .i64 0]) (results_sub2 Try.results7 rfl HR.out rfl rfl) rfl ⟨rfl, HX3.out⟩

set_option maxRecDepth 100000 in
set_option maxHeartbeats 2000000 in
/-- subs.Find, of a topic that is not there. -/
theorem Find_no (l : List Sb) (A : Option Addr) (c : Nat) (x : List UInt8) (a : Nat) (w : World) (h : SubsAt w w.heap.size A l) (hm : May l) (hp : Place l x a false) :
    Calls Try.prog 7 #[.slice A l.length c, .string (str x)] w fun e w' => e = .returned (.tuple #[.agg zcells, .int .i64 3]) ∧ Below w.heap.size w w' := by
  have HP := Lib.hid (fun W (hb : Below w.heap.size w W) => placeOf_is l A c x a false W (h.on hb) hm hp)
  have hb1 := (Below.refl w.heap.size w).alloc (Nat.le_refl _) (.cells zcells 33)
  have HB := Lib.hid (Blk.new w 33 zcells)
  have HX := Lib.hid hb1
  clear hb1 h hm hp
  obtain ⟨W0, hW⟩ : ∃ W0, w.alloc (.cells zcells 33) = W0 := ⟨_, rfl⟩
  rw [hW] at HB HX
  unfold zcells at hW
  have HW := Lib.hid hW
  clear hW
  generalize str x = sx at HP ⊢
  go_enter Try.func7, Try.ntmps7
  go_upto_region 1 with fail
  rw [HW.out]
  obtain ⟨g, hg⟩ : ∃ g, w.heap.size = g := ⟨_, rfl⟩
  have HG := Lib.hid hg
  rw [hg] at HB ⊢
  clear hg HW
  go_wp2_with fail
  refine (HP.out _ HX.out).mono ?_
  rintro e w1 ⟨rfl, hb1⟩
  have HX1 := Lib.hid (HX.out.trans (hb1.mono HX.out.size))
  have HB1 := Lib.hid (HB.out.below hb1)
  clear hb1 HX HB HP
  simp only [if_neg Bool.false_ne_true]
  have HR := Lib.hid (HB1.out.row zcells)
  have HX3 := Lib.hid (below_row (g := g) (ds := zcells) HX1.out (by have := HG.out; omega))
  go_wp2_with (refine wpList_store_whole rfl 33 (.tmp 4) (.tmp 16) rfl g zcells rfl rfl _ HB1.out info_sub rfl one_zero ?_; simp only [Act.put])
  refine bodyPost_ret (v := .tuple #[.agg zcells, .int .i64 3]) (results_sub2 Try.results7 rfl HR.out rfl rfl) rfl ⟨rfl, HX3.out⟩
end Go.Proofs.Ytdogeljlcnlbkaa.Sbs
