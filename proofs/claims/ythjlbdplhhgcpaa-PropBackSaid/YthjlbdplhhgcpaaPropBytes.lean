/- Package prop: the bytes of properties at a place. -/
import Derived.Test.YthjlbdplhhgcpaaPropMay
import Derived.Test.YthjlbdplhhgcpaaPropPutTwo
import Derived.Test.YthjlbdplhhgcpaaPropBuild
import Derived.Deep.RegionHeld3
namespace Go.Proofs.Ythjlbdplhhgcpaa
open Go.RowKit Go.Lib Prp Vbi

def bytesStr (place : Int) (l : List P) : ByteArray := if propsB place l = true then propStr l else ⟨#[]⟩
def bytesErr (place : Int) (l : List P) : Int := if propsB place l = true then 0 else 1
theorem bytes_yes {place : Int} {l : List P} (h : propsB place l = true) : bytesStr place l = propStr l ∧ bytesErr place l = 0 := by unfold bytesStr bytesErr; rw [if_pos h, if_pos h]; exact ⟨rfl, rfl⟩
theorem bytes_no {place : Int} {l : List P} (h : propsB place l = false) : bytesStr place l = ⟨#[]⟩ ∧ bytesErr place l = 1 := by
  have h' : ¬ propsB place l = true := by rw [h]; decide
  unfold bytesStr bytesErr; rw [if_neg h', if_neg h']; exact ⟨rfl, rfl⟩
theorem props_place {place : Int} {l : List P} (h : placeB place = false) : propsB place l = false := by unfold propsB; rw [h]; rfl
theorem props_many {place : Int} {l : List P} (h : 8 < l.length) : propsB place l = false := by unfold propsB; rw [decide_eq_false (by omega)]; simp
theorem props_few {place : Int} {l : List P} (h : placeB place = true) (h8 : l.length ≤ 8) : propsB place l = goodL place [] l := by unfold propsB; rw [h, decide_eq_true h8]; simp
theorem good_step {place : Int} {l : List P} {k : Nat} (hk : k < l.length) : goodL place (l.take k) (l.drop k) = (goodB place (l.take k) l[k] && goodL place (l.take (k + 1)) (l.drop (k + 1))) := by
  rw [List.drop_eq_getElem_cons hk, List.take_succ_eq_append_getElem hk]; rfl
theorem rest_step {l : List P} {k : Nat} (hk : k < l.length) : restStr (l.take (k + 1)) = restStr (l.take k) ++ oneStr l[k] := by
  rw [List.take_succ_eq_append_getElem hk, rest_snoc]

theorem Built.below {W W' : World} {B b : Nat} {s : ByteArray} (h : Built B b s W) (hb : Below W.heap.size W W') : Built B b s W' := by
  have key : ∀ p, BuilderAt 55 5 B b p (Lib.byteCells s.data.toList) W → BuilderAt 55 5 B b p (Lib.byteCells s.data.toList) W' := fun p h => by
    have hl := h.lt
    obtain ⟨h1, v, h2, h3, h4⟩ := h
    exact ⟨h1, v, (hb.block b hl).trans h2, own_below h3 hb, h4⟩
  rcases h with h | h
  · exact .inl (key _ h)
  · exact .inr (key _ h)
/-- Where a round stands: the builder, the properties, what was there ahead of the call. -/
@[irreducible] def BSt (w : World) (A : Option Addr) (l : List P) (b : Nat) (S : ByteArray) (W : World) : Prop := Built w.heap.size b S W ∧ PropsAt W w.heap.size A l ∧ Below w.heap.size w W
section
variable {w W W' : World} {A : Option Addr} {l : List P} {b g : Nat} {S T : ByteArray} {cs : Array Value}
theorem BSt.mk (h1 : Built w.heap.size b S W) (h2 : PropsAt W w.heap.size A l) (h3 : Below w.heap.size w W) : BSt w A l b S W := by unfold BSt; exact ⟨h1, h2, h3⟩
theorem BSt.out (h : BSt w A l b S W) : Built w.heap.size b S W ∧ PropsAt W w.heap.size A l ∧ Below w.heap.size w W := by unfold BSt at h; exact h
theorem BSt.below (h : BSt w A l b S W) (hb : Below W.heap.size W W') : BSt w A l b S W' :=
  .mk (h.out.1.below hb) (h.out.2.1.below (hb.mono h.out.2.2.size)) (h.out.2.2.trans (hb.mono h.out.2.2.size))
theorem BSt.drewN (h : BSt w A l b S W) (n : Nat) : BSt w A l b S (W.drewN n) := h.below (below_drewN (Below.refl _ _) n)
theorem BSt.alloc (h : BSt w A l b S W) (o : Obj) : BSt w A l b S (W.alloc o) := h.below ((Below.refl _ _).alloc (Nat.le_refl _) o)
theorem BSt.write (h : BSt w A l b S W) (h1 : Built w.heap.size b T W') (hb : Below w.heap.size W W') : BSt w A l b T W' := .mk h1 (h.out.2.1.below hb) (h.out.2.2.trans hb)
/-- The same, with a block of known cells. -/
@[irreducible] def BStP (w : World) (A : Option Addr) (l : List P) (b : Nat) (S : ByteArray) (g : Nat) (cs : Array Value) (W : World) : Prop := BSt w A l b S W ∧ Box W g cs
theorem BStP.mk (h1 : BSt w A l b S W) (h2 : Box W g cs) : BStP w A l b S g cs W := by unfold BStP; exact ⟨h1, h2⟩
theorem BStP.out (h : BStP w A l b S g cs W) : BSt w A l b S W ∧ Box W g cs := by unfold BStP at h; exact h
theorem BStP.below (h : BStP w A l b S g cs W) (hb : Below W.heap.size W W') : BStP w A l b S g cs W' := .mk (h.out.1.below hb) (h.out.2.below hb)
theorem BStP.drewN (h : BStP w A l b S g cs W) (n : Nat) : BStP w A l b S g cs (W.drewN n) := h.below (below_drewN (Below.refl _ _) n)
theorem BStP.new (h : BSt w A l b S W) (T : TypeId) : BStP w A l b S W.heap.size cs (W.alloc (.cells cs T)) := .mk (h.alloc _) (.new W T cs)
end
theorem BStP.four {w W : World} {A : Option Addr} {l : List P} {b g : Nat} {S : ByteArray} {x y : Int} {s v : ByteArray} (h : BStP w A l b S g #[.int .i64 x, .int .i64 y, .string s, .string v] W) :
    W.cell? ⟨g, 0, none⟩ = some (.int .i64 x) ∧ W.cell? ⟨g, 1, none⟩ = some (.int .i64 y) ∧ W.cell? ⟨g, 2, none⟩ = some (.string s) ∧ W.cell? ⟨g, 3, none⟩ = some (.string v) :=
  ⟨h.out.2.cell 0, h.out.2.cell 1, h.out.2.cell 2, h.out.2.cell 3⟩
theorem mayFollow_take (place id n : Int) (s v : ByteArray) (l : List P) (k : Nat) (A : Option Addr) (c B : Nat) (b : Bool) (w : World) (hk : k ≤ l.length) (hm : l.length ≤ 9223372036854775807) (h : PropsAt w B A l) (hB : B ≤ w.heap.size) (hb : mayB place (l.take k) ⟨id, n, s, v⟩ = b) :
    Calls Try.prog 29 #[.int .i64 place, .slice A k c, .agg #[.int .i64 id, .int .i64 n, .string s, .string v]] w fun e w' => e = .returned (.bool b) ∧ Below w.heap.size w w' := by
  have := mayFollow_is place id n s v (l.take k) A c b w (by rw [List.length_take]; omega) ((h.mono hB).take k) hb
  rwa [List.length_take, Nat.min_eq_left hk] at this

theorem may_kind {place id n : Int} {s v : ByteArray} {a : List P} (h : mayB place a ⟨id, n, s, v⟩ = true) : kindZ id ≠ 0 ∧ (kindZ id = 1 → n = 0 ∨ n = 1) := by
  unfold mayB at h
  rw [Bool.and_eq_true, Bool.and_eq_true] at h
  refine ⟨stand_kind h.1, fun h1 => ?_⟩
  have h2 : haveB id n = true := h.2.1
  unfold haveB at h2
  by_cases hz : noZ id
  · unfold noZ at hz
    rcases hz with rfl | rfl | rfl | rfl <;> cases h1
  · rw [if_neg hz] at h2
    have := of_decide_eq_true h2
    omega
set_option maxRecDepth 100000 in
set_option maxHeartbeats 8000000 in
theorem Bytes_is (place : Int) (l : List P) (A : Option Addr) (c : Nat) (S : ByteArray) (E : Int) (w : World) (hm : l.length ≤ 9223372036854775807) (hcap : l.length ≤ c) (hfit : ∀ p ∈ l, Fit p) (h : PropsAt w w.heap.size A l)
    (hS : bytesStr place l = S) (hE : bytesErr place l = E) :
    Calls Try.prog 17 #[.int .i64 place, .slice A l.length c] w fun e w' => e = .returned (.tuple #[.string S, .int .i64 E]) ∧ Below w.heap.size w w' := by
  have H := Lib.hid h
  have HF := Lib.hid hfit
  clear h hfit
  obtain ⟨x, hx⟩ : ∃ x, placeB place = x := ⟨_, rfl⟩
  have HP := Lib.hid (fun W => isPlace_is place x W hx)
  cases x with
  | false =>
    obtain ⟨e1, e2⟩ := bytes_no (props_place (l := l) hx)
    obtain rfl : ⟨#[]⟩ = S := e1.symm.trans hS
    obtain rfl : 1 = E := e2.symm.trans hE
    clear hx hS hE e1 e2
    go_enter Try.func17, Try.ntmps17
    go_wp2_with (go_at_call 28; refine (HP.out _).mono ?_; rintro e w' ⟨rfl, rfl⟩)
    go_ret2
    exact ⟨rfl, Below.refl _ _⟩
  | true =>
  by_cases h8 : 8 < l.length
  · obtain ⟨e1, e2⟩ := bytes_no (props_many (place := place) h8)
    obtain rfl : ⟨#[]⟩ = S := e1.symm.trans hS
    obtain rfl : 1 = E := e2.symm.trans hE
    clear hx hS hE e1 e2
    go_enter Try.func17, Try.ntmps17
    go_wp2_with (go_at_call 28; refine (HP.out _).mono ?_; rintro e w' ⟨rfl, rfl⟩)
    go_ret2
    exact ⟨rfl, Below.refl _ _⟩
  have HG := Lib.hid (props_few hx (show l.length ≤ 8 by omega))
  have hd8 : decide (8 < (l.length : Int)) = false := by simp; omega
  have hl8 : l.length ≤ 8 := by omega
  have HS := Lib.hid hS
  have HE := Lib.hid hE
  clear hx hS hE
  go_enter Try.func17, Try.ntmps17
  go_wp2_with (go_at_call 28; refine (HP.out _).mono ?_; rintro e w' ⟨rfl, rfl⟩)
  have HB := Lib.hid (BSt.mk (w := w) (A := A) (l := l) (built_new w) (H.out.alloc (Nat.le_refl _) _) ((Below.refl _ _).alloc (Nat.le_refl _) _))
  obtain ⟨b, hb⟩ : ∃ b, w.heap.size = b := ⟨_, rfl⟩
  have hBb : BSt w A l b ⟨#[]⟩ (w.alloc (.cells #[.pointer none, .slice none 0 0] 55)) := by rw [← hb]; exact HB.out
  rw [hb]
  have HB0 := Lib.hid hBb
  clear hb hBb HB
  go_loopw [23] (fun i wr => ∃ k : Nat, k ≤ l.length ∧ i = .int .i64 (k : Int) ∧ BSt w A l b (restStr (l.take k)) wr ∧ goodL place [] l = goodL place (l.take k) (l.drop k) ∧ (restStr (l.take k)).size ≤ 2053 * k) (fun i _ => l.length - (RowKit.intOf i).toNat)
  case atStart => exact ⟨0, Nat.zero_le _, rfl, HB0.out, rfl, by rw [List.take_zero]; decide⟩
  case round =>
    obtain ⟨k, hk, rfl, hst, hgood, hsz⟩ := hrel
    have HT := Lib.hid hst
    have HGD := Lib.hid hgood
    have hsz2 : (restStr (l.take k)).size ≤ 16424 := by omega
    have HZ := Lib.hid hsz
    clear hst hgood hsz HB0
    by_cases hlt : k < l.length
    · have HR := Lib.hid (rest_step hlt)
      have HGS := Lib.hid (HGD.out.trans (good_step hlt))
      have hfp : Fit l[k] := HF.out _ (List.getElem_mem hlt)
      obtain ⟨b0, o, rfl, hb0, hc⟩ := H.out.some_ (by omega)
      obtain ⟨_, _, hAeq, _, hcw⟩ := HT.out.out.2.1.some_ (by omega)
      obtain ⟨rfl, rfl⟩ : b0 = _ ∧ o = _ := by injection hAeq with e; injection e with e1 e2; exact ⟨e1, e2⟩
      obtain ⟨d0, d1, d2, d3⟩ := hcw k hlt
      clear hc hcw hAeq
      obtain ⟨q, hq⟩ : ∃ q, l[k] = q := ⟨_, rfl⟩
      rw [hq] at d0 d1 d2 d3 hfp
      have hqq : l[k] = q := hq
      have HR2 : Hid (restStr (l.take (k + 1)) = restStr (l.take k) ++ oneStr q) := by rw [← hqq]; exact HR.out
      have HGS2 : Hid (goodL place [] l = (goodB place (l.take k) q && goodL place (l.take (k + 1)) (l.drop (k + 1)))) := by rw [← hqq]; exact HGS.out
      clear hq hqq HR HGS
      obtain ⟨id, n, s, v⟩ := q
      have hn1 := hfp.n1
      have hs1 := hfp.hs
      have hv1 := hfp.hv
      obtain ⟨T, hT⟩ : ∃ T, restStr (l.take k) = T := ⟨_, rfl⟩
      rw [hT] at HT hsz2 HR2 HZ
      clear hT
      have HBP := BStP.new (cs := #[.int .i64 id, .int .i64 n, .string s, .string v]) HT.out 48
      have hkI : (k : Int) < (l.length : Int) := by omega
      obtain ⟨y, hy⟩ : ∃ y, mayB place (l.take k) ⟨id, n, s, v⟩ = y := ⟨_, rfl⟩
      have HM := Lib.hid (fun (W : World) (g : Nat) (h : BStP w (some ⟨b0, o, none⟩) l b T g #[.int .i64 id, .int .i64 n, .string s, .string v] W) => mayFollow_take place id n s v l k (some ⟨b0, o, none⟩) c w.heap.size y W hk hm h.out.1.out.2.1 h.out.1.out.2.2.size hy)
      have HY := Lib.hid hy
      clear hy
      go_wp2_with fail
      obtain ⟨g, hg⟩ : ∃ g, wr.heap.size = g := ⟨_, rfl⟩
      rw [hg] at HBP ⊢
      clear hg
      generalize wr.alloc (.cells #[.int .i64 id, .int .i64 n, .string s, .string v] 48) = wa at HBP ⊢
      obtain ⟨e0, e1, e2, e3⟩ := HBP.four
      clear d0 d1 d2 d3
      have hk0 : (0 : Int) ≤ (k : Int) := by omega
      have hkc : (k : Int) ≤ (c : Int) := by omega
      go_region_held3 (fun W => W.cell? ⟨g, 0, none⟩ = some (.int .i64 id) ∧ W.cell? ⟨g, 1, none⟩ = some (.int .i64 n) ∧ W.cell? ⟨g, 2, none⟩ = some (.string s) ∧ W.cell? ⟨g, 3, none⟩ = some (.string v) ∧ BStP w (some ⟨b0, o, none⟩) l b T g #[.int .i64 id, .int .i64 n, .string s, .string v] W)
        (first | exact ⟨f0, f1, f2, f3, st⟩ | exact ⟨e0, e1, e2, e3, HBP.drewN 1⟩)
        (first | (go_at_call 29; (with_reducible refine (HM.out _ g ?_).mono ?_); (exact HBP.drewN 1); rintro e w1 ⟨rfl, hb1⟩; have st := (HBP.drewN 1).below hb1; obtain ⟨f0, f1, f2, f3⟩ := st.four))
      have HB1 := Lib.hid st
      clear e0 e1 e2 e3 HBP HM
      have NO : Hid (propsB place l = false → S = ⟨#[]⟩ ∧ E = 1) := fun hp => ⟨HS.out.symm.trans (bytes_no hp).1, HE.out.symm.trans (bytes_no hp).2⟩
      cases y with
      | false =>
        obtain ⟨hS', hE'⟩ := NO.out (HG.out.trans (HGS2.out.trans (by rw [good_may, HY.out]; rfl)))
        have HS' := Lib.hid hS'
        have HE' := Lib.hid hE'
        clear hS' hE'
        go_wp2_with fail
        go_ret2
        exact ⟨by rw [HS'.out, HE'.out]; rfl, HB1.out.out.1.out.2.2⟩
      | true =>
        obtain ⟨hkind, hone⟩ := may_kind HY.out
        cases hval : valB (kindZ id) ⟨id, n, s, v⟩ with
        | false =>
          obtain ⟨hS', hE'⟩ := NO.out (HG.out.trans (HGS2.out.trans (by rw [good_may, HY.out]; show ((true && valB (kindZ id) ⟨id, n, s, v⟩) && _) = false; rw [hval]; rfl)))
          have HS' := Lib.hid hS'
          have HE' := Lib.hid hE'
          have HO := Lib.hid (fun W => putOne_no id n s v W hkind hone hn1 (by omega) (by omega) hval)
          clear hS' hE' hkind hone hval
          go_wp2_with fail
          refine (HO.out _).mono ?_
          rintro e w2 ⟨rfl, hb2⟩
          have HB2 := Lib.hid (HB1.out.below hb2)
          clear hb1 hb2 st f0 f1 f2 f3 HO HB1
          go_wp2_with fail
          go_ret2
          exact ⟨by rw [HS'.out, HE'.out]; rfl, HB2.out.out.1.out.2.2⟩
        | true =>
          obtain ⟨U, hU⟩ : ∃ U, oneStr ⟨id, n, s, v⟩ = U := ⟨_, rfl⟩
          have hUz : U.size ≤ 2053 := by rw [← hU]; exact one_size id n s v hkind hval
          have HO := Lib.hid (fun W => putOne_yes id n s v U W hkind hn1 (by omega) hval hU)
          have HG3 := Lib.hid (HGS2.out.trans (by rw [good_may, HY.out]; show ((true && valB (kindZ id) ⟨id, n, s, v⟩) && _) = _; rw [hval]; rfl : _ = goodL place (l.take (k + 1)) (l.drop (k + 1))))
          have HR3 : Hid (restStr (l.take (k + 1)) = T ++ U) := by rw [← hU]; exact HR2.out
          clear hkind hone hval hU
          go_wp2_with fail
          refine (HO.out _).mono ?_
          rintro e w2 ⟨rfl, hb2⟩
          have HB2 := Lib.hid (HB1.out.below hb2)
          clear hb1 hb2 st f0 f1 f2 f3 HO HB1
          go_wp2_with (go_at_call 31; refine (WriteString_is w.heap.size b T U _ HB2.out.out.1.out.1 (by omega) HB2.out.out.1.out.2.2.size).mono ?_; rintro e w3 ⟨⟨z, rfl⟩, hbu, hb3⟩)
          have HB3 := Lib.hid (HB2.out.out.1.write hbu hb3)
          clear hbu hb3 HB2
          go_roundw
          case rel => exact ⟨k + 1, hlt, by go_num, by rw [HR3.out]; exact HB3.out, HG3.out, by rw [HR3.out, ByteArray.size_append]; have := HZ.out; omega⟩
          case measure => simp [RowKit.intOf]; omega
    · obtain rfl : k = l.length := by omega
      have hgo : goodL place [] l = true := by have := HGD.out; rw [List.drop_length] at this; exact this
      have hp : propsB place l = true := HG.out.trans hgo
      have hst := HT.out
      rw [List.take_length] at hst hsz2
      have HT2 := Lib.hid hst
      obtain ⟨R, hR⟩ : ∃ R, restStr l = R := ⟨_, rfl⟩
      rw [hR] at HT2 hsz2
      obtain ⟨N, hN⟩ : ∃ N, strOfNums (numZ R.size) = N := ⟨_, rfl⟩
      have hNz : N.size ≤ 4 := by rw [← hN, strOfNums_size, numZ_len (by omega)]; exact (numLen_le _).2
      have HN := Lib.hid (fun W => Num_is (R.size : Int) N 0 W (by
        rcases numErr_cases (R.size : Int) with ⟨_, _, _, e⟩ | ⟨h0, _⟩
        · rw [e, Int.toNat_natCast, hN]
        · omega) (by
        rcases numErr_cases (R.size : Int) with ⟨_, _, e, _⟩ | ⟨h0, _⟩
        · exact e
        · omega))
      have HS' : Hid (S = N ++ R) := HS.out.symm.trans ((bytes_yes hp).1.trans (by unfold propStr; rw [hR, hN]))
      have HE' : Hid (E = 0) := HE.out.symm.trans (bytes_yes hp).2
      clear hgo hp hst hR hN HT HGD HZ
      go_wp2_with (go_at_call 33; refine (Len_is w.heap.size b R _ HT2.out.out.1).mono ?_; rintro e w' ⟨rfl, rfl⟩)
      refine (HN.out _).mono ?_
      rintro e w4 ⟨rfl, hb4⟩
      have HT3 := Lib.hid (HT2.out.below hb4)
      clear hb4 HT2 HN
      go_wp2_with (go_at_call 34; refine (String_is w.heap.size b R _ HT3.out.out.1 HT3.out.out.2.2.size).mono ?_; rintro e w5 ⟨rfl, hb5⟩)
      go_ret2
      exact ⟨by rw [HS'.out, HE'.out]; rfl, HT3.out.out.2.2.trans hb5⟩

set_option maxHeartbeats 1000000 in
theorem Check_is (place : Int) (l : List P) (A : Option Addr) (c : Nat) (E : Int) (w : World) (hm : l.length ≤ 9223372036854775807) (hcap : l.length ≤ c) (hfit : ∀ p ∈ l, Fit p) (h : PropsAt w w.heap.size A l) (hE : bytesErr place l = E) :
    Calls Try.prog 20 #[.int .i64 place, .slice A l.length c] w fun e w' => e = .returned (.int .i64 E) ∧ Below w.heap.size w w' := by
  obtain ⟨S, hS⟩ : ∃ S, bytesStr place l = S := ⟨_, rfl⟩
  have HB := Lib.hid (Bytes_is place l A c S E w hm hcap hfit h hS hE)
  clear hm hcap hfit h hS hE
  go_enter Try.func20, Try.ntmps20
  go_wp2_with fail
  refine HB.out.mono ?_
  rintro e w1 ⟨rfl, hb⟩
  have HX := Lib.hid hb
  clear hb
  go_wp2_with fail
  go_ret
  exact ⟨rfl, HX.out⟩
end Go.Proofs.Ythjlbdplhhgcpaa
