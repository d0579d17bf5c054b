/- The document's own answer on packets: what stands behind the length of a Connect, without a will. -/
import Derived.Test.YtdbbcfohjkgdcaaGreatL00
import Derived.Test.YtdbbcfohjkgdcaaGreatL13
import Derived.Test.YtdbbcfohjkgdcaaGreatL18
import Derived.Test.YtdbbcfohjkgdcaaGreatL21
set_option maxRecDepth 100000
set_option maxHeartbeats 64000000
namespace Go.Proofs.YtdbbcfohjkgdcaaGreat
open Go.RowKit Go.Lib Prp Pkt Vbi
def psR (place : Int) (s : ByteArray) (e : Int) : List P × ByteArray × Int := if ¬ e = 0 then ([], s, e) else if (takeP place s).2.2 = 0 then ((takeP place s).1, s.extract (takeP place s).2.1.toNat s.size, 0) else ([], s, inn (takeP place s).2.2)
theorem props_is (g : Nat) (place : Int) (s s' : ByteArray) (e e' : Int) (L : List P) (w : World) (hx : placeB place = true) (hs : s.size ≤ 281474976710656) (h : Rd w g s e) (hr : psR place s e = (L, s', e')) :
  Calls Tryz.prog 107 #[.pointer (some ⟨g, 0, none⟩), .int .i64 place] w (GivesNew L g s' e' w) := by
 have hg := h.lt
 have c0 := h.cell 0
 have c1 := h.cell 1
 have H := Lib.hid h
 clear h
 unfold psR at hr
 by_cases he : e = 0
 ·rw [if_neg (not_not_intro he)] at hr
  subst he
  by_cases hl : (takeP place s).2.2 = 0
  ·rw [if_pos hl] at hr
   obtain ⟨k, hk, hks⟩ : ∃ k : Nat, (takeP place s).2.1 = (k : Int) ∧ k ≤ s.size := by
    rcases takeP_cases s hx with ⟨E, _, hE, e⟩ | ⟨m, q, _, _, _, _, e⟩ | ⟨m, q, E, _, _, _, _, _, hE, e⟩ | ⟨m, q, L', _, _, _, h7, _, e⟩
    ·rw [e] at hl; exact absurd hl hE
    ·rw [e] at hl; cases hl
    ·rw [e] at hl; exact absurd hl hE
    ·rw [e]; exact ⟨q + m, rfl, h7⟩
   obtain ⟨S, K, E, hT⟩ : ∃ S K E, takeP place s = (S, K, E) := ⟨_, _, _, rfl⟩
   rw [hT] at hl hr hk
   obtain rfl : E = 0 := hl
   obtain rfl : K = (k : Int) := hk
   injection hr with r1 r2
   injection r2 with r2 r3
   subst r1 r3
   have HT := Lib.hid (fun W => RTakeProps_is place s S (k : Int) 0 W hs hx hT)
   have HE := Lib.hid r2
   clear hT r2 hx
   have hI : (k : Int) ≤ (s.size : Int) := by omega
   go_enter Tryz.func107, Tryz.ntmps107
   go_wp2_with (go_at_call 131; refine (HT.out _).mono ?_; rintro r w1 ⟨A, c, rfl, hta⟩; have hown := hta.out.1; have hb := hta.out.2; have H1 : Hid (Rd w1 g s 0) := Lib.hid (Box.below H.out hb); have HB := Lib.hid hb; have HO := Lib.hid hown; clear hta hown hb c0 c1; have c0 := H1.out.cell 0; have f0 := H1.out.frozen 0)
   go_ret
   refine ⟨A, c, rfl, own_room HO.out, own_new HO.out, ?_, by rw [← HE.out]; exact H1.out.put0 _, (Bar.of g HB.out).trans (Bar.set g _ 0 _)⟩
   exact (props_bar (PropsAt.of_own HO.out) (Nat.le_refl _) ((own_new HO.out).off hg) (Bar.set g _ 0 _)).mono (Bar.set g _ 0 _).size
  ·rw [if_neg hl] at hr
   obtain ⟨S, K, E, hT⟩ : ∃ S K E, takeP place s = (S, K, E) := ⟨_, _, _, rfl⟩
   rw [hT] at hl hr
   have hE : ¬ E = 0 := hl
   injection hr with r1 r2
   injection r2 with r2 r3
   subst r1 r2
   have HT := Lib.hid (fun W => RTakeProps_is place s S K E W hs hx hT)
   have HI := Lib.hid (fun W => inner_is E e' W r3)
   clear hT r3 hl hx
   have hEb := ne_false hE
   go_enter Tryz.func107, Tryz.ntmps107
   go_wp2_with (go_at_call 131; refine (HT.out _).mono ?_; rintro r w1 ⟨A, c, rfl, hta⟩; have hb := hta.out.2; have H1 : Hid (Rd w1 g s 0) := Lib.hid (Box.below H.out hb); have HB := Lib.hid hb; clear hta hb c0 c1; have c1 := H1.out.cell 1; have f1 := H1.out.frozen 1)
   refine (HI.out _).mono ?_
   rintro r w2 ⟨rfl, rfl⟩
   go_wp2_with fail
   go_ret
   exact ⟨none, 0, rfl, Nat.le_refl _, .none_ _, .inl rfl, H1.out.put1 _, (Bar.of g HB.out).trans (Bar.set g _ 1 _)⟩
 ·rw [if_pos he] at hr
  injection hr with r1 r2
  injection r2 with r2 r3
  subst r1 r2 r3
  go_enter Tryz.func107, Tryz.ntmps107
  go_wp2_with fail
  go_ret
  exact ⟨none, 0, rfl, Nat.le_refl _, .none_ _, .inl rfl, H.out, Bar.refl _ _⟩
theorem want_st (g : Nat) (st : St) (b : Bool) (x : Int) (w : World) (hx : x ≠ 0) (h : RdOf false w g st) :
  Calls Tryz.prog 106 #[.pointer (some ⟨g, 0, none⟩), .bool b, .int .i64 x] w fun r w' => r = .returned (.tuple #[]) ∧ RdOf false w' g (st.want b x) ∧ Bar g w w' := by
 cases st with
 | ok s =>
  refine (want_is g s 0 x b w h.1).mono ?_
  rintro r w' ⟨rfl, h1, h2⟩
  refine ⟨rfl, ?_, h2⟩
  cases b with
  | true => exact ⟨h1, h.2⟩
  | false => exact ⟨hx, s, h1, h.2, fun e => by cases e⟩
 | bad e =>
  obtain ⟨h0, s, h1, h2, h3⟩ := h
  refine (want_is g s e x b w h1).mono ?_
  rintro r w' ⟨rfl, k1, k2⟩
  refine ⟨rfl, ⟨h0, s, ?_, h2, h3⟩, k2⟩
  have : wantE e b x = e := by unfold wantE firstE; rw [if_neg h0]; split <;> rfl
  rw [this] at k1
  exact k1
theorem fixed_st (g wd : Nat) (st : St) (w : World) (hw : wd ≤ 4) (h : RdOf false w g st) :
  Calls Tryz.prog 105 #[.pointer (some ⟨g, 0, none⟩), .int .i64 (wd : Int)] w fun r w' => r = .returned (.int .i64 ((st.run (fixR wd)).val 0)) ∧ RdOf false w' g (st.run (fixR wd)).st ∧ Bar g w w' := by
 cases st with
 | ok s =>
  have hs := h.2
  rw [run_ok]
  have e0 : fxR wd s 0 = if s.size < wd then (0, s, 8) else (tfVal wd s.data.toList, s.extract wd s.size, 0) := by unfold fxR; rw [if_neg (by omega)]
  by_cases hl : s.size < wd
  ·rw [if_pos hl] at e0
   have e1 : fixR wd s = .bad 8 := by unfold fixR; rw [if_pos hl]
   rw [e1]
   refine (fixed_is g wd s _ 0 _ _ w (by omega) hw h.1 e0).mono ?_
   rintro r w' ⟨rfl, k1, k2⟩
   exact ⟨rfl, ⟨by decide, s, k1, hs, fun e => by cases e⟩, k2⟩
  ·rw [if_neg hl] at e0
   have e1 : fixR wd s = .ok (fixVal (s.data.toList.take wd) : Nat) (s.extract wd s.size) := by unfold fixR; rw [if_neg hl]
   have e2 : tfVal wd s.data.toList = (fixVal (s.data.toList.take wd) : Nat) := by unfold tfVal; rw [if_neg (by rw [← Lib.size_eq]; exact hl)]
   rw [e1]
   rw [e2] at e0
   refine (fixed_is g wd s _ 0 _ _ w (by omega) hw h.1 e0).mono ?_
   rintro r w' ⟨rfl, k1, k2⟩
   exact ⟨rfl, ⟨k1, by rw [ByteArray.size_extract]; omega⟩, k2⟩
 | bad e =>
  obtain ⟨h0, s, h1, h2, h3⟩ := h
  refine (fixed_is g wd s s e 0 e w (by omega) hw h1 (by unfold fxR; rw [if_pos h0])).mono ?_
  rintro r w' ⟨rfl, k1, k2⟩
  exact ⟨rfl, ⟨h0, s, k1, h2, h3⟩, k2⟩
theorem long_st (g : Nat) (t : Bool) (st : St) (w : World) (h : RdOf false w g st) :
  Calls Tryz.prog 108 #[.pointer (some ⟨g, 0, none⟩), .bool t] w fun r w' => r = .returned (.string ((st.run (longR t)).val ⟨#[]⟩)) ∧ RdOf false w' g (st.run (longR t)).st ∧ Bar g w w' := by
 cases st with
 | ok s =>
  have hs := h.2
  rw [run_ok]
  by_cases hl : (tl t s).2.2 = 0
  ·have e0 : lgR t s 0 = ((tl t s).1, s.extract (tl t s).2.1.toNat s.size, 0) := by unfold lgR; rw [if_neg (by omega), if_pos hl]
   have e1 : longR t s = .ok (tl t s).1 (s.extract (tl t s).2.1.toNat s.size) := by unfold longR; rw [if_pos hl]
   rw [e1]
   refine (rdlong_is g t s _ _ 0 _ w (by omega) h.1 e0).mono ?_
   rintro r w' ⟨rfl, k1, k2⟩
   exact ⟨rfl, ⟨k1, by rw [ByteArray.size_extract]; omega⟩, k2⟩
  ·have e0 : lgR t s 0 = (⟨#[]⟩, s, inn (tl t s).2.2) := by unfold lgR; rw [if_neg (by omega), if_neg hl]
   have e1 : longR t s = .bad (inn (tl t s).2.2) := by unfold longR; rw [if_neg hl]
   rw [e1]
   refine (rdlong_is g t s _ _ 0 _ w (by omega) h.1 e0).mono ?_
   rintro r w' ⟨rfl, k1, k2⟩
   exact ⟨rfl, ⟨inn_ne hl, s, k1, hs, fun e => by cases e⟩, k2⟩
 | bad e =>
  obtain ⟨h0, s, h1, h2, h3⟩ := h
  refine (rdlong_is g t s ⟨#[]⟩ s e e w (by omega) h1 (by unfold lgR; rw [if_pos h0])).mono ?_
  rintro r w' ⟨rfl, k1, k2⟩
  exact ⟨rfl, ⟨h0, s, k1, h2, h3⟩, k2⟩
theorem props_st (g : Nat) (place : Int) (st : St) (w : World) (hx : placeB place = true) (h : RdOf false w g st) :
  Calls Tryz.prog 107 #[.pointer (some ⟨g, 0, none⟩), .int .i64 place] w (GivesSt false ((st.run (propsR place)).val []) g (st.run (propsR place)).st w) := by
 cases st with
 | ok s =>
  have hs := h.2
  rw [run_ok]
  by_cases hl : (takeP place s).2.2 = 0
  ·have e0 : psR place s 0 = ((takeP place s).1, s.extract (takeP place s).2.1.toNat s.size, 0) := by unfold psR; rw [if_neg (by omega), if_pos hl]
   have e1 : propsR place s = .ok (takeP place s).1 (s.extract (takeP place s).2.1.toNat s.size) := by unfold propsR; rw [if_pos hl]
   rw [e1]
   refine (props_is g place s _ 0 _ _ w hx (by omega) h.1 e0).mono ?_
   rintro r w' ⟨A, c, rfl, k1, k2, k3, k4, k5⟩
   exact ⟨A, c, rfl, k1, k2, k3, ⟨k4, by rw [ByteArray.size_extract]; omega⟩, k5⟩
  ·have e0 : psR place s 0 = ([], s, inn (takeP place s).2.2) := by unfold psR; rw [if_neg (by omega), if_neg hl]
   have e1 : propsR place s = .bad (inn (takeP place s).2.2) := by unfold propsR; rw [if_neg hl]
   rw [e1]
   refine (props_is g place s _ 0 _ _ w hx (by omega) h.1 e0).mono ?_
   rintro r w' ⟨A, c, rfl, k1, k2, k3, k4, k5⟩
   exact ⟨A, c, rfl, k1, k2, k3, ⟨inn_ne hl, s, k4, hs, fun e => by cases e⟩, k5⟩
 | bad e =>
  obtain ⟨h0, s, h1, h2, h3⟩ := h
  refine (props_is g place s s e e [] w hx (by omega) h1 (by unfold psR; rw [if_pos h0])).mono ?_
  rintro r w' ⟨A, c, rfl, k1, k2, k3, k4, k5⟩
  exact ⟨A, c, rfl, k1, k2, k3, ⟨h0, s, k4, h2, h3⟩, k5⟩
open Go.RowKit Go.Lib Prp Pkt Vbi
@[irreducible] def KQ (w : World) (g : Nat) (p : Pk) (a : Ad) (h : Nat) (cs : Array Value) (W : World) : Prop := KP w g p a W ∧ Box W h cs
section
variable {w W W' : World} {g h : Nat} {p : Pk} {a : Ad} {cs : Array Value}
theorem KQ.mk (h1 : KP w g p a W) (h2 : Box W h cs) : KQ w g p a h cs W := by unfold KQ; exact ⟨h1, h2⟩
theorem KQ.out (h1 : KQ w g p a h cs W) : KP w g p a W ∧ Box W h cs := by unfold KQ at h1; exact h1
theorem KQ.below (h1 : KQ w g p a h cs W) (hb : Below W.heap.size W W') : KQ w g p a h cs W' := .mk (h1.out.1.below hb) (h1.out.2.below hb)
theorem KQ.drewN (h1 : KQ w g p a h cs W) (n : Nat) : KQ w g p a h cs (W.drewN n) := h1.below (below_drewN (Below.refl _ _) n)
theorem KQ.k (h1 : KQ w g p a h cs W) : Keep w g (pkArr p a) W := h1.out.1.k
end
section
variable {w W : World} {g h : Nat} {p : Pk} {a : Ad}
theorem KQ.w0 (x : KQ w g p a h (wlArr p.w a.wa a.wc) W) : W.cell? ⟨h, 0, none⟩ = some (.bool p.w.has) := x.out.2.cell 0
theorem KQ.w1 (x : KQ w g p a h (wlArr p.w a.wa a.wc) W) : W.cell? ⟨h, 1, none⟩ = some (.int .i64 p.w.q) := x.out.2.cell 1
theorem KQ.w2 (x : KQ w g p a h (wlArr p.w a.wa a.wc) W) : W.cell? ⟨h, 2, none⟩ = some (.bool p.w.ret) := x.out.2.cell 2
theorem KQ.w3 (x : KQ w g p a h (wlArr p.w a.wa a.wc) W) : W.cell? ⟨h, 3, none⟩ = some (.string p.w.t) := x.out.2.cell 3
theorem KQ.w4 (x : KQ w g p a h (wlArr p.w a.wa a.wc) W) : W.cell? ⟨h, 4, none⟩ = some (.string p.w.b) := x.out.2.cell 4
theorem KQ.w5 (x : KQ w g p a h (wlArr p.w a.wa a.wc) W) : W.cell? ⟨h, 5, none⟩ = some (.slice a.wa p.w.ps.length a.wc) := x.out.2.cell 5
end
end Go.Proofs.YtdbbcfohjkgdcaaGreat
