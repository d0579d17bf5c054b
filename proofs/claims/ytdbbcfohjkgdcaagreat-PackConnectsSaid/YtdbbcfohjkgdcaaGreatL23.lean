/- The document's own: all behind a packet's length: facts on a Publish. -/
import Derived.Test.YtdbbcfohjkgdcaaGreatL00
import Derived.Test.YtdbbcfohjkgdcaaGreatL22
set_option maxRecDepth 100000
set_option maxHeartbeats 64000000
namespace Go.Proofs.YtdbbcfohjkgdcaaGreat
open Go.RowKit Go.Lib Prp Pkt Vbi
theorem beq_nat (n : Nat) : ((n : Int) == 0) = decide (n = 0) := by
 by_cases h : n = 0
 ·subst h; rfl
 ·rw [decide_eq_false h]; exact ne_false (by omega)
theorem beq_int (x y : Int) : (x == y) = decide (x = y) := by
 by_cases h : x = y <;> simp [h]
theorem not_bad {st : St} {b : Bool} {e : Int} (h : (st.want b e).isBad = false) : st.isBad = false := by
 cases st with
 | ok s => rfl
 | bad x => cases h
theorem head_k {k z : Int} (h3 : k ≠ 3) (hz0 : 0 ≤ z) (hz1 : z ≤ 15) : headP (16 * k + z) = zp k := by
 rw [headP_k (by omega)]
 congr 1
 omega
theorem headB_k {k z : Int} (h0 : k ≠ 0) (h3 : k ≠ 3) (hz0 : 0 ≤ z) (hz1 : z ≤ 15) : headB (16 * k + z) = decide (flagsZ (zp k) = z) := by
 have e1 : (16 * k + z) / 16 = k := by omega
 have e2 : (16 * k + z) % 16 = z := by omega
 unfold headB
 rw [head_k h3 hz0 hz1, e1, e2, decide_eq_true h0, if_neg h3]
 rfl
theorem body_good (k z : Int) (s : ByteArray) (h0 : k ≠ 0) (h3 : k ≠ 3) (_ : True) (hz0 : 0 ≤ z) (hz1 : z ≤ 15) (hf : flagsZ (zp k) = z) :
  bodyS (16 * k + z) s = ((partsS (zp k) (.ok s)).1, (partsS (zp k) (.ok s)).2.want (decide ((partsS (zp k) (.ok s)).2.rest.size = 0)) 8) := by
 unfold bodyS
 rw [head_k h3 hz0 hz1, headB_k h0 h3 hz0 hz1, decide_eq_true hf]
 rfl
theorem body_head (k z : Int) (s : ByteArray) (h0 : k ≠ 0) (h3 : k ≠ 3) (_ : True) (hz0 : 0 ≤ z) (hz1 : z ≤ 15) (hf : flagsZ (zp k) ≠ z) :
  (bodyS (16 * k + z) s).2 = .bad 8 := by
 unfold bodyS
 rw [head_k h3 hz0 hz1, headB_k h0 h3 hz0 hz1, decide_eq_false hf]
 show ((partsS (zp k) (.bad 8)).2).want _ 8 = _
 rw [parts_bad]
 rfl
open Go.RowKit Go.Lib Prp Pkt Vbi
theorem body_0 {z : Int} (s : ByteArray) (hz0 : 0 ≤ z) (hz1 : z ≤ 15) : (bodyS z s).2 = .bad 8 := by
 have e : headB z = false := by
  unfold headB
  rw [show z / 16 = 0 by omega]
  rfl
 unfold bodyS
 rw [e]
 show ((partsS _ (.bad 8)).2).want _ 8 = _
 rw [parts_bad]
 rfl
theorem rbody_0 (z : Int) (s : ByteArray) (w : World) (hz0 : 0 ≤ z) (hz1 : z ≤ 15) (hs : s.size ≤ 268435456) :
  Calls Tryz.prog 84 #[.int .i64 0, .int .i64 z, .string s] w (GivesBody (bodyS z s) w) := by
 have HF0 := hz0
 have HRB := Lib.hid (body_0 s hz0 hz1)
 have HFB := Lib.hid HF0
 have HZ := Lib.hid hs
 have hb0 := Box.new w 30 (pkArr (zp 0) za)
 have ha := (Below.refl w.heap.size w).alloc (Nat.le_refl _) (.cells (pkArr (zp 0) za) 30)
 obtain ⟨W1, hW⟩ : ∃ W1, w.alloc (.cells (pkArr (zp 0) za) 30) = W1 := ⟨_, rfl⟩
 rw [hW] at hb0 ha
 simp only [pkArr, zp, za, zw, List.length_nil] at hW
 have HW := Lib.hid hW
 have HK0 := Lib.hid hb0
 have HA := Lib.hid ha
 clear hW hb0 ha HF0
 go_enter Tryz.func84, Tryz.ntmps84
 go_upto_region 1 with fail
 rw [HW.out]
 clear HW
 obtain ⟨k0, hk0⟩ : ∃ k, w.heap.size = k := ⟨_, rfl⟩
 have HKK := Lib.hid hk0
 rw [hk0] at HK0 ⊢
 clear hk0
 have hkl := HK0.out.lt
 have hb0 := Box.new W1 30 (pkArr (zp 0) za)
 have ha := (Below.refl W1.heap.size W1).alloc (Nat.le_refl _) (.cells (pkArr (zp 0) za) 30)
 obtain ⟨W2, hW⟩ : ∃ W2, W1.alloc (.cells (pkArr (zp 0) za) 30) = W2 := ⟨_, rfl⟩
 rw [hW] at hb0 ha
 simp only [pkArr, zp, za, zw, List.length_nil] at hW
 have HW := Lib.hid hW
 obtain ⟨h, hh⟩ : ∃ h, W1.heap.size = h := ⟨_, rfl⟩
 rw [hh] at hb0 ha hkl
 have HB2 := Lib.hid hb0
 have HA2 := Lib.hid ha
 have HH := Lib.hid hh
 clear hW hb0 ha
 go_upto_region 2 with (first | (refine wpList_build_kind rfl (.tmp 14) rfl 0 rfl ?_) | (rw [HW.out]; refine wpList_store_whole rfl 30 (.tmp 8) (.tmp 15) rfl h (pkArr (zp 0) za) rfl rfl (pkArr (zp 0) za) HB2.out info_pk rfl (one_pk _ _) ?_; simp only [Act.put]))
 have HB3 := Lib.hid (HB2.out.row (pkArr (zp 0) za))
 have HA3 := Lib.hid ((Bar.row h W2 (pkArr (zp 0) za)).below HA2.out (Nat.le_refl _) (by have := HA2.out.size; omega))
 clear HW HB2 HA2 hh
 generalize World.setRow _ _ _ = W3 at HB3 HA3 ⊢
 have hhl := HB3.out.lt
 go_upto_region 3 with fail
 have hr4 : RdOf false (W3.alloc (.cells #[.string s, .int .i64 0] 154)) W3.heap.size (.ok s) := ⟨Box.new W3 154 #[.string s, .int .i64 0], HZ.out⟩
 have ha4 := (Below.refl W3.heap.size W3).alloc (Nat.le_refl _) (.cells #[.string s, .int .i64 0] 154)
 obtain ⟨g, hg⟩ : ∃ g, W3.heap.size = g := ⟨_, rfl⟩
 rw [hg] at hr4 hhl ⊢
 have HL4 := Lib.hid (Live.mk (x := false) (B := h) (w0 := W1) (g := g) (h := h) (st := .ok s) (p := zp 0) (a := za) ⟨HA3.out.alloc (by omega) _, by omega, Nat.le_refl _, by omega, hr4, HB3.out.below (ha4.mono (by omega)), PkAt.zero' _ _ _ ⟨rfl, rfl, rfl, rfl⟩, .zero g, .zero h, PkCap.zero' _ ⟨rfl, rfl, rfl, rfl⟩, .zero h⟩)
 clear hr4 ha4 HA3 HB3 hg HZ
 generalize W3.alloc _ = W4 at HL4 ⊢
 have HK5 : Hid (Box W4 k0 (pkArr (zp 0) za)) := Lib.hid (HK0.out.below (HL4.out.b.mono (by have := HH.out; omega)))
 have HB5 := Lib.hid (HA.out.trans (HL4.out.b.mono (by have := HKK.out; omega)))
 have hld := load_bx HL4.out.bx
 clear HFB
 go_wp2_with (first | (refine wpList_load_any (by rfl) 30 (.tmp 8) rfl h 0 rfl _ hld ?_) | (refine wpList_store_whole rfl 30 (.tmp 6) (.tmp 21) rfl k0 (pkArr (zp 0) za) rfl rfl (pkArr (zp 0) za) HK5.out info_pk rfl (one_pk _ _) ?_; simp only [Act.put]))
 refine bodyPost_ret (results_pk2 Tryz.results84 rfl (HK5.out.row (pkArr (zp 0) za)) rfl) rfl ⟨zp 0, za, by rw [HRB.out]; rfl, PkAt.zero' _ _ _ ⟨rfl, rfl, rfl, rfl⟩, PkCap.zero' _ ⟨rfl, rfl, rfl, rfl⟩, .zero _, (Bar.row k0 W4 _).below HB5.out (by have := HKK.out; omega) HB5.out.size, by rw [HRB.out]; exact (by decide : (8 : Int) ≠ 0), fun hb => by rw [HRB.out] at hb; cases hb⟩
open Go.RowKit Go.Lib Prp Pkt Vbi
@[irreducible] def LiveW (B : Nat) (w0 : World) (g h k : Nat) (st : St) (p : Pk) (a : Ad) (x : Wl) (A : Option Addr) (c : Nat) (W : World) : Prop :=
 Live false B w0 g h st p a W ∧ Box W k (wlArr x A c) ∧ k ≠ g ∧ k ≠ h ∧ B ≤ k ∧ PkOff k a ∧ PropsAt W W.heap.size A x.ps ∧ Off g A ∧ Off h A ∧ Off k A ∧ New B A ∧ x.ps.length ≤ c
section
variable {B : Nat} {w0 : World} {g h k : Nat} {st st' : St} {p p' : Pk} {a a' : Ad} {x : Wl} {A : Option Addr} {c : Nat} {W W' : World}
theorem LiveW.mk (q : Live false B w0 g h st p a W ∧ Box W k (wlArr x A c) ∧ k ≠ g ∧ k ≠ h ∧ B ≤ k ∧ PkOff k a ∧ PropsAt W W.heap.size A x.ps ∧ Off g A ∧ Off h A ∧ Off k A ∧ New B A ∧ x.ps.length ≤ c) : LiveW B w0 g h k st p a x A c W := by unfold LiveW; exact q
theorem LiveW.out (q : LiveW B w0 g h k st p a x A c W) : Live false B w0 g h st p a W ∧ Box W k (wlArr x A c) ∧ k ≠ g ∧ k ≠ h ∧ B ≤ k ∧ PkOff k a ∧ PropsAt W W.heap.size A x.ps ∧ Off g A ∧ Off h A ∧ Off k A ∧ New B A ∧ x.ps.length ≤ c := by unfold LiveW at q; exact q
theorem LiveW.l (q : LiveW B w0 g h k st p a x A c W) : Live false B w0 g h st p a W := q.out.1
theorem LiveW.rd (q : LiveW B w0 g h k st p a x A c W) : RdOf false W g st := q.out.1.rd
theorem LiveW.bx (q : LiveW B w0 g h k st p a x A c W) : Box W k (wlArr x A c) := q.out.2.1
theorem LiveW.bar (q : LiveW B w0 g h k st p a x A c W) (hb : Bar g W W') (hr : RdOf false W' g st') : LiveW B w0 g h k st' p a x A c W' := by
 obtain ⟨q1, q2, q3, q4, q5, q6, q7, q8, q9, q10, q11, q12⟩ := q.out
 exact .mk ⟨q1.bar hb hr, hb.box q2 q3, q3, q4, q5, q6, (props_bar q7 (Nat.le_refl _) q8 hb).mono hb.size, q8, q9, q10, q11, q12⟩
theorem LiveW.putp (q : LiveW B w0 g h k st p a x A c W) {i : Nat} {v : Value} (hl : Live false B w0 g h st p' a' (W.setCell ⟨h, i, none⟩ v)) (ho : PkOff k a') : LiveW B w0 g h k st p' a' x A c (W.setCell ⟨h, i, none⟩ v) := by
 obtain ⟨q1, q2, q3, q4, q5, q6, q7, q8, q9, q10, q11, q12⟩ := q.out
 have hb := Bar.set h W i v
 exact .mk ⟨hl, hb.box q2 q4, q3, q4, q5, ho, (props_bar q7 (Nat.le_refl _) q9 hb).mono hb.size, q8, q9, q10, q11, q12⟩
theorem LiveW.put1 (q : LiveW B w0 g h k st p a x A c W) (i : Nat) (v : Value) (p' : Pk) (he : (pkArr p a).setIfInBounds i v = pkArr p' a) (h1 : p'.cs = p.cs) (h2 : p'.fs = p.fs) (h3 : p'.w.ps = p.w.ps) (h4 : p'.ps = p.ps) :
  LiveW B w0 g h k st p' a x A c (W.setCell ⟨h, i, none⟩ v) := q.putp (q.l.put1 i v p' he h1 h2 h3 h4) q.out.2.2.2.2.2.1
theorem LiveW.props (q : LiveW B w0 g h k st p a x A c W) {l : List P} {A' : Option Addr} {c' : Nat} (hl : PropsAt W W.heap.size A' l) (ho : (Off g A' ∧ Off h A' ∧ New B A') ∧ Off k A') (hc : l.length ≤ c') :
  LiveW B w0 g h k st { p with ps := l } { a with pa := A', pc := c' } x A c (W.setCell ⟨h, 24, none⟩ (.slice A' l.length c')) := by
 have h6 := q.out.2.2.2.2.2.1
 exact q.putp (q.l.props hl ho.1 hc) ⟨h6.ca, h6.fa, h6.wa, ho.2⟩
theorem LiveW.off (q : LiveW B w0 g h k st p a x A c W) {A' : Option Addr} (hn : New W.heap.size A') : (Off g A' ∧ Off h A' ∧ New B A') ∧ Off k A' := ⟨q.l.off hn, hn.off q.bx.lt⟩
theorem LiveW.putw (q : LiveW B w0 g h k st p a x A c W) (i : Nat) (v : Value) (x' : Wl) (A' : Option Addr) (c' : Nat) (he : (wlArr x A c).setIfInBounds i v = wlArr x' A' c') (hat : PropsAt W W.heap.size A' x'.ps) (ho : (Off g A' ∧ Off h A' ∧ New B A') ∧ Off k A') (hc : x'.ps.length ≤ c') :
  LiveW B w0 g h k st p a x' A' c' (W.setCell ⟨k, i, none⟩ v) := by
 obtain ⟨q1, q2, q3, q4, q5, q6, q7, q8, q9, q10, q11, q12⟩ := q.out
 obtain ⟨k1, k2, k3, k4, k5, k6, k7, k8, k9, k10, k11⟩ := q1.out
 have hb := Bar.set k W i v
 refine .mk ⟨.mk ⟨hb.below k1 q5 (by have := k5.lt; omega), k2, k3, k4, k5.map fun _ _ r => hb.box r q3.symm, hb.box k6 q4.symm, pk_bar k7 q6 hb, k8, k9, k10, k11⟩, ?_, q3, q4, q5, q6, (props_bar hat (Nat.le_refl _) ho.2 hb).mono hb.size, ho.1.1, ho.1.2.1, ho.2, ho.1.2.2, hc⟩
 rw [← he]
 exact q2.put i v
theorem LiveW.putw1 (q : LiveW B w0 g h k st p a x A c W) (i : Nat) (v : Value) (x' : Wl) (he : (wlArr x A c).setIfInBounds i v = wlArr x' A c) (hp : x'.ps = x.ps) : LiveW B w0 g h k st p a x' A c (W.setCell ⟨k, i, none⟩ v) := by
 obtain ⟨q1, q2, q3, q4, q5, q6, q7, q8, q9, q10, q11, q12⟩ := q.out
 exact q.putw i v x' A c he (by rw [hp]; exact q7) ⟨⟨q8, q9, q11⟩, q10⟩ (by rw [hp]; exact q12)
theorem LiveW.e0 (q : LiveW B w0 g h k st p a x A c W) : W.cell? ⟨k, 0, none⟩ = some (.bool x.has) := q.bx.cell 0
theorem LiveW.e1 (q : LiveW B w0 g h k st p a x A c W) : W.cell? ⟨k, 1, none⟩ = some (.int .i64 x.q) := q.bx.cell 1
theorem LiveW.e2 (q : LiveW B w0 g h k st p a x A c W) : W.cell? ⟨k, 2, none⟩ = some (.bool x.ret) := q.bx.cell 2
theorem LiveW.e3 (q : LiveW B w0 g h k st p a x A c W) : W.cell? ⟨k, 3, none⟩ = some (.string x.t) := q.bx.cell 3
theorem LiveW.e4 (q : LiveW B w0 g h k st p a x A c W) : W.cell? ⟨k, 4, none⟩ = some (.string x.b) := q.bx.cell 4
theorem LiveW.e5 (q : LiveW B w0 g h k st p a x A c W) : W.cell? ⟨k, 5, none⟩ = some (.slice A x.ps.length c) := q.bx.cell 5
theorem LiveW.new (q : Live false B w0 g h st p za W) (x : Wl) (hx : x.ps = []) : LiveW B w0 g h W.heap.size st p za x none 0 (W.alloc (.cells (wlArr x none 0) 28)) := by
 have h1 := q.rd.lt
 have h2 := q.bx.lt
 have h3 := q.out.2.1
 have hb := (Below.refl W.heap.size W).alloc (Nat.le_refl _) (.cells (wlArr x none 0) 28)
 exact .mk ⟨q.below hb, Box.new W _ _, by omega, by omega, by omega, .zero _, by rw [hx]; exact .inl rfl, .none_ g, .none_ h, .none_ _, .none_ B, by rw [hx]; exact Nat.le_refl _⟩
end
theorem mqtt_beq (T : ByteArray) : (T.toList == [77, 81, 84, 84]) = decide (T = mqtt) := by
 by_cases h : T = mqtt
 ·rw [decide_eq_true h, h, show mqtt.toList = [77, 81, 84, 84] by rw [ByteArray.toList_eq]; rfl]; rfl
 ·rw [decide_eq_false h]; exact mqtt_facts h
theorem beq_dec (x y : Int) : (x == y) = decide (x = y) := by
 by_cases h : x = y <;> simp [h]
theorem rconnect_is (B g h : Nat) (w0 : World) (st : St) (w : World) (hl : Live false B w0 g h st (zp 1) za w) :
  Calls Tryz.prog 104 #[.pointer (some ⟨h, 0, none⟩), .pointer (some ⟨g, 0, none⟩)] w (Done false B w0 g h (connectToo (zp 1) st)) := by
 have HO1 := long_st g true st w hl.rd
 obtain ⟨T, hT⟩ : ∃ T, (st.run (longR true)).val ⟨#[]⟩ = T := ⟨_, rfl⟩
 obtain ⟨s1, hs1⟩ : ∃ s, (st.run (longR true)).st = s := ⟨_, rfl⟩
 rw [hT, hs1] at HO1
 obtain ⟨bm, hbm⟩ : ∃ b, decide (T = mqtt) = b := ⟨_, rfl⟩
 obtain ⟨s2, hs2⟩ : ∃ s, s1.want bm 9 = s := ⟨_, rfl⟩
 have HO2 := fun (W : World) (hr : RdOf false W g s1) => want_st g s1 bm 9 W (by decide) hr
 rw [hs2] at HO2
 obtain ⟨n5, hn5⟩ : ∃ n, (s2.run (fixR 1)).val 0 = n := ⟨_, rfl⟩
 obtain ⟨s3, hs3⟩ : ∃ s, (s2.run (fixR 1)).st = s := ⟨_, rfl⟩
 have HO3 := fun (W : World) (hr : RdOf false W g s2) => fixed_st g 1 s2 W (by decide) hr
 rw [hn5, hs3] at HO3
 obtain ⟨b5, hb5⟩ : ∃ b, decide (n5 = 5) = b := ⟨_, rfl⟩
 obtain ⟨s4, hs4⟩ : ∃ s, s3.want b5 9 = s := ⟨_, rfl⟩
 have HO4 := fun (W : World) (hr : RdOf false W g s3) => want_st g s3 b5 9 W (by decide) hr
 rw [hs4] at HO4
 have hhead : connHead st = s4 := by subst hs4 hb5 hs3 hn5 hs2 hbm hs1 hT; rfl
 have hn0 := octet_range s4
 obtain ⟨n, hn⟩ : ∃ n, (s4.run (fixR 1)).val 0 = n := ⟨_, rfl⟩
 obtain ⟨s5, hs5⟩ : ∃ s, (s4.run (fixR 1)).st = s := ⟨_, rfl⟩
 have HO5 := fun (W : World) (hr : RdOf false W g s4) => fixed_st g 1 s4 W (by decide) hr
 rw [hn, hs5] at HO5
 have hn0 : 0 ≤ n ∧ n ≤ 255 := by rw [← hn]; exact hn0
 obtain ⟨hn0, hn1⟩ := hn0
 obtain ⟨cf, hcf⟩ : ∃ b, cfB n = b := ⟨_, rfl⟩
 obtain ⟨s6, hs6⟩ : ∃ s, s5.want cf 8 = s := ⟨_, rfl⟩
 have HO6 := fun (W : World) (hr : RdOf false W g s5) => want_st g s5 cf 8 W (by decide) hr
 rw [hs6] at HO6
 obtain ⟨bc, hbc⟩ : ∃ b, decide (n / 2 % 2 = 1) = b := ⟨_, rfl⟩
 obtain ⟨bp, hbp⟩ : ∃ b, decide (n / 64 % 2 = 1) = b := ⟨_, rfl⟩
 obtain ⟨bu, hbu⟩ : ∃ b, decide (n / 128 = 1) = b := ⟨_, rfl⟩
 obtain ⟨b4, hb4⟩ : ∃ b, decide (n / 4 % 2 = 1) = b := ⟨_, rfl⟩
 obtain ⟨b32, hb32⟩ : ∃ b, decide (n / 32 % 2 = 1) = b := ⟨_, rfl⟩
 obtain ⟨q, hq⟩ : ∃ q, n / 8 % 4 = q := ⟨_, rfl⟩
 have HEQ : connectToo (zp 1) st = connRest { zp 1 with clean := bc, hp := bp, hu := bu, w := ⟨b4, q, b32, ⟨#[]⟩, ⟨#[]⟩, []⟩ } s6 := by
  have hfl : connFlags st = n := by unfold connFlags; rw [hhead]; exact hn
  have hcs : connSt st = s6 := by unfold connSt; rw [hfl, hhead, hcf, ← hs6, ← hs5]; rfl
  unfold connectToo withFlags willToo
  rw [hfl, hcs, hbc, hbp, hbu, hb4, hb32, hq]
 obtain ⟨K, hK⟩ : ∃ K, (s6.run shortR).val 0 = K := ⟨_, rfl⟩
 obtain ⟨s7, hs7⟩ : ∃ s, (s6.run shortR).st = s := ⟨_, rfl⟩
 have HO7 : ∀ (W : World), RdOf false W g s6 → Calls Tryz.prog 105 #[.pointer (some ⟨g, 0, none⟩), .int .i64 2] W fun r w' => r = .returned (.int .i64 K) ∧ RdOf false w' g s7 ∧ Bar g W w' := by
  rw [← hK, ← hs7]
  exact fun W hr => fixed_st g 2 s6 W (by decide) hr
 obtain ⟨L, hL⟩ : ∃ L, (s7.run (propsR 1)).val [] = L := ⟨_, rfl⟩
 obtain ⟨s8, hs8⟩ : ∃ s, (s7.run (propsR 1)).st = s := ⟨_, rfl⟩
 have HO8 := fun (W : World) (hr : RdOf false W g s7) => props_st g 1 s7 W (by decide) hr
 rw [hL, hs8] at HO8
 obtain ⟨C, hC⟩ : ∃ C, (s8.run (longR true)).val ⟨#[]⟩ = C := ⟨_, rfl⟩
 obtain ⟨s9, hs9⟩ : ∃ s, (s8.run (longR true)).st = s := ⟨_, rfl⟩
 have HO9 := fun (W : World) (hr : RdOf false W g s8) => long_st g true s8 W hr
 rw [hC, hs9] at HO9
 have HE : Hid (∀ (bp bu : Bool) (wl : Wl) (U PW : ByteArray) (sa sb sc : St), willS ⟨b4, q, b32, ⟨#[]⟩, ⟨#[]⟩, []⟩ s9 = (wl, sa) → ifR bu true sa = (U, sb) → ifR bp false sb = (PW, sc) →
   connRest { zp 1 with clean := bc, hp := bp, hu := bu, w := ⟨b4, q, b32, ⟨#[]⟩, ⟨#[]⟩, []⟩ } s6 = ({ zp 1 with clean := bc, hp := bp, hu := bu, w := wl, keep := K, ps := L, cl := C, u := U, pw := PW }, sc)) :=
  fun bp bu wl U PW sa sb sc e1 e2 e3 => connRest_eq { zp 1 with clean := bc, hp := bp, hu := bu, w := ⟨b4, q, b32, ⟨#[]⟩, ⟨#[]⟩, []⟩ } s6 hK hs7 hL hs8 hC hs9 e1 e2 e3
 rw [HEQ]
 have H1 := Lib.hid HO1
 have H2 := Lib.hid HO2
 have H3 := Lib.hid HO3
 have H4 := Lib.hid HO4
 have H5 := Lib.hid HO5
 have HWN := Lib.hid HO6
 have H7 := Lib.hid HO7
 have H8 := Lib.hid HO8
 have H9 := Lib.hid HO9
 have HL := Lib.hid hl
 have HCF := Lib.hid hcf
 have HB4 := Lib.hid hb4
 have HB32 := Lib.hid hb32
 have HQQ := Lib.hid hq
 have m1 : (T.toList == [77, 81, 84, 84]) = bm := by rw [mqtt_beq, hbm]
 have m5 : (n5 == 5) = b5 := by rw [beq_dec, hb5]
 have m2 : (n / 2 % 2 == 1) = bc := by rw [beq_dec, hbc]
 have m64 : (n / 64 % 2 == 1) = bp := by rw [beq_dec, hbp]
 have m128 : (n / 128 == 1) = bu := by rw [beq_dec, hbu]
 have m4 : (n / 4 % 2 == 1) = b4 := by rw [beq_dec, hb4]
 have m32 : (n / 32 % 2 == 1) = b32 := by rw [beq_dec, hb32]
 have HM := Lib.hid (And.intro m2 (And.intro m64 (And.intro m128 (And.intro m4 (And.intro m32 hq)))))
 clear hl HO1 HO2 HO3 HO4 HO5 HO6 HO7 HO8 HO9 hT hs1 hbm hs2 hn5 hs3 hb5 hs4 hhead hn hs5 hcf hs6 hbc hbp hbu hb4 hb32 hq HEQ hK hs7 hL hs8 hC hs9 m2 m64 m128 m4 m32
 go_enter Tryz.func104, Tryz.ntmps104
 go_wp2_with fail
 refine H1.out.mono ?_
 rintro r w1 ⟨rfl, k1, k2⟩
 have HL1 := Lib.hid (HL.out.bar k2 k1)
 clear k1 k2 HL H1
 go_wp2_with fail
 refine (H2.out _ HL1.out.rd).mono ?_
 rintro r w2 ⟨rfl, k1, k2⟩
 have HL2 := Lib.hid (HL1.out.bar k2 k1)
 clear k1 k2 HL1 H2 m1
 go_wp2_with fail
 refine (H3.out _ HL2.out.rd).mono ?_
 rintro r w3 ⟨rfl, k1, k2⟩
 have HL3 := Lib.hid (HL2.out.bar k2 k1)
 clear k1 k2 HL2 H3
 go_wp2_with fail
 refine (H4.out _ HL3.out.rd).mono ?_
 rintro r w4 ⟨rfl, k1, k2⟩
 have HL4 := Lib.hid (HL3.out.bar k2 k1)
 clear k1 k2 HL3 H4 m5
 go_wp2_with fail
 refine (H5.out _ HL4.out.rd).mono ?_
 rintro r w5 ⟨rfl, k1, k2⟩
 have HL5 := Lib.hid (HL4.out.bar k2 k1)
 clear k1 k2 HL4 H5
 obtain ⟨m2, m64, m128, m4, m32, hq⟩ := HM.out
 go_upto_region 5 with fail
 have HW0 := Lib.hid (LiveW.new HL5.out ⟨b4, q, b32, ⟨#[]⟩, ⟨#[]⟩, []⟩ rfl)
 obtain ⟨k, hk⟩ : ∃ k, w5.heap.size = k := ⟨_, rfl⟩
 rw [hk] at HW0 ⊢
 have HW1 : Hid (LiveW B w0 g h k s5 (zp 1) za ⟨b4, q, b32, ⟨#[]⟩, ⟨#[]⟩, []⟩ none 0 (w5.alloc (.cells #[.bool b4, .int .i64 q, .bool b32, .string ⟨#[]⟩, .string ⟨#[]⟩, .slice none 0 0] 28))) := HW0
 clear HW0 HL5 hk m4 m32
 generalize w5.alloc _ = W5 at HW1 ⊢
 have d12 := HW1.out.l.f12
 have f12 := HW1.out.l.frozen 12
 have d22 := HW1.out.l.f22
 have f22 := HW1.out.l.frozen 22
 have d20 := HW1.out.l.f20
 have f20 := HW1.out.l.frozen 20
 go_upto_region 6 with fail
 have HL6 := Lib.hid (((HW1.out.put1 12 (.bool bc) { zp 1 with clean := bc } rfl rfl rfl rfl rfl).put1 22 (.bool bp) { zp 1 with clean := bc, hp := bp } rfl rfl rfl rfl rfl).put1 20 (.bool bu) { zp 1 with clean := bc, hp := bp, hu := bu } rfl rfl rfl rfl rfl)
 clear d12 f12 d22 f22 d20 f20 HW1 m2 m64 m128 HM
 generalize World.setCell _ _ _ = W6 at HL6 ⊢
 go_cut [75] (fun v wx => LiveW B w0 g h k s6 { zp 1 with clean := bc, hp := bp, hu := bu } za ⟨b4, q, b32, ⟨#[]⟩, ⟨#[]⟩, []⟩ none 0 wx)
 case first =>
  have e0 : W6.cell? ⟨k, 0, none⟩ = some (.bool b4) := HL6.out.e0
  have e1 : W6.cell? ⟨k, 1, none⟩ = some (.int .i64 q) := HL6.out.e1
  have e2 : W6.cell? ⟨k, 2, none⟩ = some (.bool b32) := HL6.out.e2
  by_cases c1 : n % 2 = 0
  ·have c1b : (n % 2 == 0) = true := by rw [beq_dec, decide_eq_true c1]
   by_cases c2 : q < 3
   ·have c2b : decide (q < 3) = true := decide_eq_true c2
    cases b4 with
    | true =>
     obtain rfl : cf = true := by rw [← HCF.out]; unfold cfB; exact decide_eq_true (⟨c1, by have := HQQ.out; omega, .inl (of_decide_eq_true HB4.out)⟩)
     go_wp2_with fail
     refine (HWN.out _ HL6.out.rd).mono ?_
     rintro r wq ⟨rfl, k1, k2⟩
     have HQ := Lib.hid (HL6.out.bar k2 k1)
     clear k1 k2 HL6
     go_wp2_with fail
     go_meet
     exact HQ.out
    | false =>
     by_cases c3 : q = 0
     ·have c3b : (q == 0) = true := by rw [beq_dec, decide_eq_true c3]
      cases b32 with
      | true =>
       obtain rfl : cf = false := by rw [← HCF.out]; unfold cfB; exact decide_eq_false (fun hh => by have h4 := of_decide_eq_false HB4.out; have h32 := of_decide_eq_true HB32.out; have := hh.2.2; omega)
       go_wp2_with fail
       refine (HWN.out _ HL6.out.rd).mono ?_
       rintro r wq ⟨rfl, k1, k2⟩
       have HQ := Lib.hid (HL6.out.bar k2 k1)
       clear k1 k2 HL6
       go_wp2_with fail
       go_meet
       exact HQ.out
      | false =>
       obtain rfl : cf = true := by rw [← HCF.out]; unfold cfB; exact decide_eq_true (⟨c1, by have := HQQ.out; omega, .inr ⟨by have := HQQ.out; omega, by have := of_decide_eq_false HB32.out; omega⟩⟩)
       go_wp2_with fail
       refine (HWN.out _ HL6.out.rd).mono ?_
       rintro r wq ⟨rfl, k1, k2⟩
       have HQ := Lib.hid (HL6.out.bar k2 k1)
       clear k1 k2 HL6
       go_wp2_with fail
       go_meet
       exact HQ.out
     ·have c3b : (q == 0) = false := by rw [beq_dec, decide_eq_false c3]
      obtain rfl : cf = false := by rw [← HCF.out]; unfold cfB; exact decide_eq_false (fun hh => by have h4 := of_decide_eq_false HB4.out; have hqq := HQQ.out; have := hh.2.2; omega)
      go_wp2_with fail
      refine (HWN.out _ HL6.out.rd).mono ?_
      rintro r wq ⟨rfl, k1, k2⟩
      have HQ := Lib.hid (HL6.out.bar k2 k1)
      clear k1 k2 HL6
      go_wp2_with fail
      go_meet
      exact HQ.out
   ·have c2b : decide (q < 3) = false := decide_eq_false c2
    obtain rfl : cf = false := by rw [← HCF.out]; unfold cfB; exact decide_eq_false (fun hh => by have hqq := HQQ.out; have := hh.2.1; omega)
    go_wp2_with fail
    refine (HWN.out _ HL6.out.rd).mono ?_
    rintro r wq ⟨rfl, k1, k2⟩
    have HQ := Lib.hid (HL6.out.bar k2 k1)
    clear k1 k2 HL6
    go_wp2_with fail
    go_meet
    exact HQ.out
  ·have c1b : (n % 2 == 0) = false := by rw [beq_dec, decide_eq_false c1]
   obtain rfl : cf = false := by rw [← HCF.out]; unfold cfB; exact decide_eq_false (fun hh => c1 hh.1)
   go_wp2_with fail
   refine (HWN.out _ HL6.out.rd).mono ?_
   rintro r wq ⟨rfl, k1, k2⟩
   have HQ := Lib.hid (HL6.out.bar k2 k1)
   clear k1 k2 HL6
   go_wp2_with fail
   go_meet
   exact HQ.out
 case rest =>
  have HL7 := Lib.hid hcut
  clear hcut HL6 HWN HCF HB4 HB32 HQQ hq hn0 hn1
  go_wp2_with fail
  refine (H7.out _ HL7.out.rd).mono ?_
  rintro r w7 ⟨rfl, k1, k2⟩
  have HL8 := Lib.hid (HL7.out.bar k2 k1)
  clear k1 k2 HL7 H7
  have d13 := HL8.out.l.f13
  have f13 := HL8.out.l.frozen 13
  have HL9 := Lib.hid (HL8.out.put1 13 (.int .i64 K) { zp 1 with clean := bc, hp := bp, hu := bu, keep := K } rfl rfl rfl rfl rfl)
  go_wp2_with fail
  refine (H8.out _ HL9.out.rd).mono ?_
  rintro r w8 ⟨A, c, rfl, k1, k2, k3, k4, k5⟩
  have HL10 := Lib.hid (HL9.out.bar k5 k4)
  have HN := Lib.hid (HL9.out.off k2)
  have HA := Lib.hid k3
  have HC := Lib.hid k1
  clear k1 k2 k3 k4 k5 d13 f13 HL8 HL9 H8
  have d24 := HL10.out.l.f24
  have f24 := HL10.out.l.frozen 24
  have HL11 := Lib.hid (HL10.out.props HA.out HN.out HC.out)
  go_wp2_with fail
  refine (H9.out _ HL11.out.rd).mono ?_
  rintro r w9 ⟨rfl, k1, k2⟩
  have HL12 := Lib.hid (HL11.out.bar k2 k1)
  clear k1 k2 d24 f24 HL10 HL11 H9 HN HA HC
  have d11 := HL12.out.l.f11
  have f11 := HL12.out.l.frozen 11
  have HL13 := Lib.hid (HL12.out.put1 11 (.string C) { zp 1 with clean := bc, hp := bp, hu := bu, keep := K, ps := L, cl := C } rfl rfl rfl rfl rfl)
  go_upto_region 10 with fail
  clear HL12 d11 f11
  generalize World.setCell _ _ _ = W13 at HL13 ⊢
  have e0 : W13.cell? ⟨k, 0, none⟩ = some (.bool b4) := HL13.out.e0
  go_upto_if 92 with fail
  go_cut [106] (fun v wx => ∃ (x : Wl) (A2 : Option Addr) (c2 : Nat) (s : St), willS ⟨b4, q, b32, ⟨#[]⟩, ⟨#[]⟩, []⟩ s9 = (x, s) ∧ LiveW B w0 g h k s { zp 1 with clean := bc, hp := bp, hu := bu, keep := K, ps := L, cl := C } { za with pa := A, pc := c } x A2 c2 wx)
  case first =>
   cases b4 with
   | false =>
    go_wp2_with fail
    go_meet
    exact ⟨_, _, _, s9, will_no rfl, HL13.out⟩
   | true =>
    obtain ⟨WL, hWL⟩ : ∃ L, (s9.run (propsR 0)).val [] = L := ⟨_, rfl⟩
    obtain ⟨s10, hs10⟩ : ∃ s, (s9.run (propsR 0)).st = s := ⟨_, rfl⟩
    have H60 := fun (W : World) (hr : RdOf false W g s9) => props_st g 0 s9 W (by decide) hr
    rw [hWL, hs10] at H60
    obtain ⟨WT, hWT⟩ : ∃ C, (s10.run (longR true)).val ⟨#[]⟩ = C := ⟨_, rfl⟩
    obtain ⟨s11, hs11⟩ : ∃ s, (s10.run (longR true)).st = s := ⟨_, rfl⟩
    have H70 := fun (W : World) (hr : RdOf false W g s10) => long_st g true s10 W hr
    rw [hWT, hs11] at H70
    obtain ⟨bt, hbt⟩ : ∃ b, decide (WT ≠ ⟨#[]⟩) = b := ⟨_, rfl⟩
    obtain ⟨s12, hs12⟩ : ∃ s, s11.want bt 8 = s := ⟨_, rfl⟩
    have H80 := fun (W : World) (hr : RdOf false W g s11) => want_st g s11 bt 8 W (by decide) hr
    rw [hs12] at H80
    obtain ⟨WB, hWB⟩ : ∃ C, (s12.run (longR false)).val ⟨#[]⟩ = C := ⟨_, rfl⟩
    obtain ⟨s13, hs13⟩ : ∃ s, (s12.run (longR false)).st = s := ⟨_, rfl⟩
    have H90 := fun (W : World) (hr : RdOf false W g s12) => long_st g false s12 W hr
    rw [hWB, hs13] at H90
    have HWN2 : Hid (willS ⟨true, q, b32, ⟨#[]⟩, ⟨#[]⟩, []⟩ s9 = ({ (⟨true, q, b32, ⟨#[]⟩, ⟨#[]⟩, []⟩ : Wl) with ps := WL, t := WT, b := WB }, s13)) := will_yes rfl hWL hs10 hWT hs11 (by rw [hbt, hs12]; exact hWB) (by rw [hbt, hs12]; exact hs13)
    have G6 := Lib.hid H60
    have G7 := Lib.hid H70
    have G8 := Lib.hid H80
    have G9 := Lib.hid H90
    have HBT := Lib.hid hbt
    clear H60 H70 H80 H90 hWL hs10 hWT hs11 hbt hs12 hWB hs13
    go_wp2_with fail
    refine (G6.out _ HL13.out.rd).mono ?_
    rintro r w10 ⟨A2, c2, rfl, k1, k2, k3, k4, k5⟩
    have HL14 := Lib.hid (HL13.out.bar k5 k4)
    have HN := Lib.hid (HL13.out.off k2)
    have HA := Lib.hid k3
    have HC := Lib.hid k1
    clear k1 k2 k3 k4 k5 e0 HL13 G6
    have d5 := HL14.out.e5
    have f5 : w10.frozen? ⟨k, 5, none⟩ = false := HL14.out.bx.frozen 5
    have HL15 := Lib.hid (HL14.out.putw 5 (.slice A2 WL.length c2) ⟨true, q, b32, ⟨#[]⟩, ⟨#[]⟩, WL⟩ A2 c2 rfl HA.out HN.out HC.out)
    go_wp2_with fail
    refine (G7.out _ HL15.out.rd).mono ?_
    rintro r w11 ⟨rfl, k1, k2⟩
    have HL16 := Lib.hid (HL15.out.bar k2 k1)
    clear k1 k2 d5 f5 HL14 HL15 G7 HN HA HC
    have d3 := HL16.out.e3
    have f3 : w11.frozen? ⟨k, 3, none⟩ = false := HL16.out.bx.frozen 3
    have HL17 := Lib.hid (HL16.out.putw1 3 (.string WT) ⟨true, q, b32, WT, ⟨#[]⟩, WL⟩ rfl rfl)
    have HFIN : Hid (∀ W, LiveW B w0 g h k s12 { zp 1 with clean := bc, hp := bp, hu := bu, keep := K, ps := L, cl := C } { za with pa := A, pc := c } ⟨true, q, b32, WT, ⟨#[]⟩, WL⟩ A2 c2 W → Calls Tryz.prog 108 #[.pointer (some ⟨g, 0, none⟩), .bool false] W fun r w' => r = .returned (.string WB) ∧ LiveW B w0 g h k s13 { zp 1 with clean := bc, hp := bp, hu := bu, keep := K, ps := L, cl := C } { za with pa := A, pc := c } ⟨true, q, b32, WT, ⟨#[]⟩, WL⟩ A2 c2 w') := fun W hL => (G9.out W hL.rd).mono fun r w' hh => ⟨hh.1, hL.bar hh.2.2 hh.2.1⟩
    by_cases hz : WT.size = 0
    ·obtain rfl : WT = ⟨#[]⟩ := ByteArray.size_eq_zero_iff.1 hz
     obtain rfl : bt = false := by rw [← HBT.out]; rfl
     go_wp2_with fail
     refine (G8.out _ HL17.out.rd).mono ?_
     rintro r w12 ⟨rfl, k1, k2⟩
     have HL18 := Lib.hid (HL17.out.bar k2 k1)
     clear k1 k2 d3 f3 HL16 HL17 G8
     go_wp2_with fail
     refine (HFIN.out _ HL18.out).mono ?_
     rintro r w13 ⟨rfl, k1⟩
     have HL19 := Lib.hid k1
     clear k1 HL18 HFIN
     have d4 := HL19.out.e4
     have f4 : w13.frozen? ⟨k, 4, none⟩ = false := HL19.out.bx.frozen 4
     have HL20 := Lib.hid (HL19.out.putw1 4 (.string WB) ⟨true, q, b32, ⟨#[]⟩, WB, WL⟩ rfl rfl)
     go_wp2_with fail
     go_meet
     exact ⟨_, _, _, s13, HWN2.out, HL20.out⟩
    ·obtain ⟨zne, zne2⟩ := size_facts hz
     obtain rfl : bt = true := by rw [← HBT.out]; exact decide_eq_true (fun e => hz (by rw [e]; rfl))
     go_wp2_with fail
     refine (G8.out _ HL17.out.rd).mono ?_
     rintro r w12 ⟨rfl, k1, k2⟩
     have HL18 := Lib.hid (HL17.out.bar k2 k1)
     clear k1 k2 d3 f3 HL16 HL17 G8 zne zne2
     go_wp2_with fail
     refine (HFIN.out _ HL18.out).mono ?_
     rintro r w13 ⟨rfl, k1⟩
     have HL19 := Lib.hid k1
     clear k1 HL18 HFIN
     have d4 := HL19.out.e4
     have f4 : w13.frozen? ⟨k, 4, none⟩ = false := HL19.out.bx.frozen 4
     have HL20 := Lib.hid (HL19.out.putw1 4 (.string WB) ⟨true, q, b32, WT, WB, WL⟩ rfl rfl)
     go_wp2_with fail
     go_meet
     exact ⟨_, _, _, s13, HWN2.out, HL20.out⟩
  case rest =>
   obtain ⟨x, A2, c2, sw, hww, hlw⟩ := hcut
   have HWW := Lib.hid hww
   have HL14 := Lib.hid hlw
   clear hww hlw HL13 e0
   have e0 := HL14.out.e0
   have e1 := HL14.out.e1
   have e2 := HL14.out.e2
   have e3 := HL14.out.e3
   have e4 := HL14.out.e4
   have e5 := HL14.out.e5
   have d14 := HL14.out.l.f14
   have d15 := HL14.out.l.f15
   have d16 := HL14.out.l.f16
   have d17 := HL14.out.l.f17
   have d18 := HL14.out.l.f18
   have d19 := HL14.out.l.f19
   have f14 := HL14.out.l.frozen 14
   have f15 := HL14.out.l.frozen 15
   have f16 := HL14.out.l.frozen 16
   have f17 := HL14.out.l.frozen 17
   have f18 := HL14.out.l.frozen 18
   have f19 := HL14.out.l.frozen 19
   have hkh : ¬ k = h := HL14.out.out.2.2.2.1
   go_upto_region 16 with fail
   have HL15 := ((((HL14.out.put1 14 (.bool x.has) { zp 1 with clean := bc, hp := bp, hu := bu, w := { zw with has := x.has }, keep := K, ps := L, cl := C } rfl rfl rfl rfl rfl).put1 15 (.int .i64 x.q) { zp 1 with clean := bc, hp := bp, hu := bu, w := { zw with has := x.has, q := x.q }, keep := K, ps := L, cl := C } rfl rfl rfl rfl rfl).put1 16 (.bool x.ret) { zp 1 with clean := bc, hp := bp, hu := bu, w := { zw with has := x.has, q := x.q, ret := x.ret }, keep := K, ps := L, cl := C } rfl rfl rfl rfl rfl).put1 17 (.string x.t) { zp 1 with clean := bc, hp := bp, hu := bu, w := { zw with has := x.has, q := x.q, ret := x.ret, t := x.t }, keep := K, ps := L, cl := C } rfl rfl rfl rfl rfl).put1 18 (.string x.b) { zp 1 with clean := bc, hp := bp, hu := bu, w := { zw with has := x.has, q := x.q, ret := x.ret, t := x.t, b := x.b }, keep := K, ps := L, cl := C } rfl rfl rfl rfl rfl
   obtain ⟨-, -, -, -, -, -, o7, o8, o9, -, o11, o12⟩ := HL15.out
   have HLW := Lib.hid (HL15.l.wprops (l := x.ps) (A := A2) (c := c2) o7 ⟨o8, o9, o11⟩ o12)
   have HLW : Hid (Live false B w0 g h sw { zp 1 with clean := bc, hp := bp, hu := bu, w := x, keep := K, ps := L, cl := C } { za with pa := A, pc := c, wa := A2, wc := c2 } _) := HLW
   clear HL14 HL15 o7 o8 o9 o11 o12 e0 e1 e2 e3 e4 e5 d14 d15 d16 d17 d18 d19 f14 f15 f16 f17 f18 f19 hkh
   generalize World.setCell _ _ _ = W15 at HLW ⊢
   have d20 := HLW.out.f20
   cases bu with
   | true =>
    obtain ⟨U, hU⟩ : ∃ U, (sw.run (longR true)).val ⟨#[]⟩ = U := ⟨_, rfl⟩
    obtain ⟨sb, hsb⟩ : ∃ s, (sw.run (longR true)).st = s := ⟨_, rfl⟩
    have HT0 := fun (W : World) (hr : RdOf false W g sw) => long_st g true sw W hr
    rw [hU, hsb] at HT0
    have HIU : Hid (ifR true true sw = (U, sb)) := by show _ = _; rw [← hU, ← hsb]; rfl
    have HT := Lib.hid HT0
    clear hU hsb HT0
    go_wp2_with fail
    refine (HT.out _ HLW.out.rd).mono ?_
    rintro r wu ⟨rfl, k1, k2⟩
    have HLX := Lib.hid (HLW.out.bar k2 k1)
    clear k1 k2 HLW
    have d21 := HLX.out.f21
    have f21 := HLX.out.frozen 21
    have HLU := Lib.hid (HLX.out.put1 21 (.string U) { zp 1 with clean := bc, hp := bp, hu := true, w := x, keep := K, ps := L, cl := C, u := U } rfl rfl rfl rfl rfl)
    go_upto_region 18 with fail
    clear HLX d21 f21
    generalize World.setCell _ _ _ = Wu at HLU ⊢
    have d22 := HLU.out.f22
    cases bp with
    | true =>
     obtain ⟨PW, hPW⟩ : ∃ U, (sb.run (longR false)).val ⟨#[]⟩ = U := ⟨_, rfl⟩
     obtain ⟨sc, hsc⟩ : ∃ s, (sb.run (longR false)).st = s := ⟨_, rfl⟩
     have HT0 := fun (W : World) (hr : RdOf false W g sb) => long_st g false sb W hr
     rw [hPW, hsc] at HT0
     have HIP : Hid (ifR true false sb = (PW, sc)) := by show _ = _; rw [← hPW, ← hsc]; rfl
     have HT := Lib.hid HT0
     clear hPW hsc HT0
     go_wp2_with fail
     refine (HT.out _ HLU.out.rd).mono ?_
     rintro r wp ⟨rfl, k1, k2⟩
     have HLX := Lib.hid (HLU.out.bar k2 k1)
     clear k1 k2 HLU d22
     have d23 := HLX.out.f23
     have f23 := HLX.out.frozen 23
     have HLP := Lib.hid (HLX.out.put1 23 (.string PW) { zp 1 with clean := bc, hp := true, hu := true, w := x, keep := K, ps := L, cl := C, u := U, pw := PW } rfl rfl rfl rfl rfl)
     have HEE := HE.out true true _ _ _ _ _ _ HWW.out HIU.out HIP.out
     have HEH := Lib.hid HEE
     clear HEE
     go_wp2_with fail
     exact bodyPost_end (v := .tuple #[]) (by simp [results, Tryz.results104]) rfl ⟨rfl, _, _, by rw [HEH.out]; exact HLP.out, by rw [HEH.out]; exact fun _ => rfl⟩
    | false =>
     have HEE := HE.out false true _ _ _ _ _ _ HWW.out HIU.out rfl
     have HEH := Lib.hid HEE
     clear HEE
     go_wp2_with fail
     exact bodyPost_end (v := .tuple #[]) (by simp [results, Tryz.results104]) rfl ⟨rfl, _, _, by rw [HEH.out]; exact HLU.out, by rw [HEH.out]; exact fun _ => rfl⟩
   | false =>
    go_upto_region 18 with fail
    have HLU := HLW
    clear HLW
    have d22 := HLU.out.f22
    cases bp with
    | true =>
     obtain ⟨PW, hPW⟩ : ∃ U, (sw.run (longR false)).val ⟨#[]⟩ = U := ⟨_, rfl⟩
     obtain ⟨sc, hsc⟩ : ∃ s, (sw.run (longR false)).st = s := ⟨_, rfl⟩
     have HT0 := fun (W : World) (hr : RdOf false W g sw) => long_st g false sw W hr
     rw [hPW, hsc] at HT0
     have HIP : Hid (ifR true false sw = (PW, sc)) := by show _ = _; rw [← hPW, ← hsc]; rfl
     have HT := Lib.hid HT0
     clear hPW hsc HT0
     go_wp2_with fail
     refine (HT.out _ HLU.out.rd).mono ?_
     rintro r wp ⟨rfl, k1, k2⟩
     have HLX := Lib.hid (HLU.out.bar k2 k1)
     clear k1 k2 HLU d22
     have d23 := HLX.out.f23
     have f23 := HLX.out.frozen 23
     have HLP := Lib.hid (HLX.out.put1 23 (.string PW) { zp 1 with clean := bc, hp := true, hu := false, w := x, keep := K, ps := L, cl := C, pw := PW } rfl rfl rfl rfl rfl)
     have HEE := HE.out true false _ _ _ _ _ _ HWW.out rfl HIP.out
     have HEH := Lib.hid HEE
     clear HEE
     go_wp2_with fail
     exact bodyPost_end (v := .tuple #[]) (by simp [results, Tryz.results104]) rfl ⟨rfl, _, _, by rw [HEH.out]; exact HLP.out, by rw [HEH.out]; exact fun _ => rfl⟩
    | false =>
     have HEE := HE.out false false _ _ _ _ _ _ HWW.out rfl rfl
     have HEH := Lib.hid HEE
     clear HEE
     go_wp2_with fail
     exact bodyPost_end (v := .tuple #[]) (by simp [results, Tryz.results104]) rfl ⟨rfl, _, _, by rw [HEH.out]; exact HLU.out, by rw [HEH.out]; exact fun _ => rfl⟩
open Go.RowKit Go.Lib Prp Pkt Vbi
theorem rbody_1 (z : Int) (s : ByteArray) (w : World) (hz0 : 0 ≤ z) (hz1 : z ≤ 15) (hs : s.size ≤ 268435456) :
  Calls Tryz.prog 84 #[.int .i64 1, .int .i64 z, .string s] w (GivesBody (bodyS (16 * 1 + z) s) w) := by
 have HF0 := hz0
 have HFB := Lib.hid HF0
 have HZ := Lib.hid hs
 have hb0 := Box.new w 30 (pkArr (zp 0) za)
 have ha := (Below.refl w.heap.size w).alloc (Nat.le_refl _) (.cells (pkArr (zp 0) za) 30)
 obtain ⟨W1, hW⟩ : ∃ W1, w.alloc (.cells (pkArr (zp 0) za) 30) = W1 := ⟨_, rfl⟩
 rw [hW] at hb0 ha
 simp only [pkArr, zp, za, zw, List.length_nil] at hW
 have HW := Lib.hid hW
 have HK0 := Lib.hid hb0
 have HA := Lib.hid ha
 clear hW hb0 ha HF0
 go_enter Tryz.func84, Tryz.ntmps84
 go_upto_region 1 with fail
 rw [HW.out]
 clear HW
 obtain ⟨k0, hk0⟩ : ∃ k, w.heap.size = k := ⟨_, rfl⟩
 have H1 := Lib.hid hk0
 rw [hk0] at HK0 ⊢
 clear hk0
 have hkl := HK0.out.lt
 have hb0 := Box.new W1 30 (pkArr (zp 0) za)
 have ha := (Below.refl W1.heap.size W1).alloc (Nat.le_refl _) (.cells (pkArr (zp 0) za) 30)
 obtain ⟨W2, hW⟩ : ∃ W2, W1.alloc (.cells (pkArr (zp 0) za) 30) = W2 := ⟨_, rfl⟩
 rw [hW] at hb0 ha
 simp only [pkArr, zp, za, zw, List.length_nil] at hW
 have HW := Lib.hid hW
 obtain ⟨h, hh⟩ : ∃ h, W1.heap.size = h := ⟨_, rfl⟩
 rw [hh] at hb0 ha hkl
 have HB2 := Lib.hid hb0
 have HA2 := Lib.hid ha
 have HH := Lib.hid hh
 clear hW hb0 ha
 go_upto_region 2 with (first | (refine wpList_build_kind rfl (.tmp 14) rfl 1 rfl ?_) | (rw [HW.out]; refine wpList_store_whole rfl 30 (.tmp 8) (.tmp 15) rfl h (pkArr (zp 1) za) rfl rfl (pkArr (zp 0) za) HB2.out info_pk rfl (one_pk _ _) ?_; simp only [Act.put]))
 have HB3 := Lib.hid (HB2.out.row (pkArr (zp 1) za))
 have HA3 := Lib.hid ((Bar.row h W2 (pkArr (zp 1) za)).below HA2.out (Nat.le_refl _) (by have := HA2.out.size; omega))
 clear HW HB2 HA2 hh
 generalize World.setRow _ _ _ = W3 at HB3 HA3 ⊢
 have hhl := HB3.out.lt
 go_upto_region 3 with fail
 have hr4 : RdOf false (W3.alloc (.cells #[.string s, .int .i64 0] 154)) W3.heap.size (.ok s) := ⟨Box.new W3 154 #[.string s, .int .i64 0], HZ.out⟩
 have ha4 := (Below.refl W3.heap.size W3).alloc (Nat.le_refl _) (.cells #[.string s, .int .i64 0] 154)
 obtain ⟨g, hg⟩ : ∃ g, W3.heap.size = g := ⟨_, rfl⟩
 rw [hg] at hr4 hhl ⊢
 have HL4 := Lib.hid (Live.mk (x := false) (B := h) (w0 := W1) (g := g) (h := h) (st := .ok s) (p := zp 1) (a := za) ⟨HA3.out.alloc (by omega) _, by omega, Nat.le_refl _, by omega, hr4, HB3.out.below (ha4.mono (by omega)), PkAt.zero' _ _ _ ⟨rfl, rfl, rfl, rfl⟩, .zero g, .zero h, PkCap.zero' _ ⟨rfl, rfl, rfl, rfl⟩, .zero h⟩)
 clear hr4 ha4 HA3 HB3 hg HZ
 generalize W3.alloc _ = W4 at HL4 ⊢
 have hld := load_bx HL4.out.bx
 go_wp2_with (refine wpList_load_any (by rfl) 30 (.tmp 8) rfl h 0 rfl _ hld ?_)
 refine (rflags_is (zp 1) za 0 W4 (by decide) (by decide) rfl).mono ?_
 rintro r w5 ⟨rfl, q1⟩
 have HL5 := Lib.hid (HL4.out.bar (Bar.of g q1) (HL4.out.rd.below q1))
 have HK5 : Hid (Box w5 k0 (pkArr (zp 0) za)) := Lib.hid (HK0.out.below (HL5.out.b.mono (by have := HH.out; omega)))
 have HB5 := Lib.hid (HA.out.trans (HL5.out.b.mono (by have := H1.out; omega)))
 clear q1 hld HL4
 by_cases hzf : z = 0
 ·subst hzf
  have HRB := Lib.hid (body_good 1 0 s (by decide) (by decide) (by decide) (by decide) (by decide) rfl)
  clear HK5 HB5 HFB
  obtain ⟨R, hR⟩ : ∃ R, partsS (zp 1) (.ok s) = R := ⟨_, rfl⟩
  rw [hR] at HRB
  have HRC := Lib.hid (rconnect_is h g h W1 (.ok s) w5 HL5.out)
  go_wp2_with fail
  refine HRC.out.mono ?_
  rintro r w6 ⟨rfl, pf, af, q1, q2⟩
  obtain ⟨t1, t2⟩ := connect_too (zp 1) (.ok s)
  have hR' : connectS (zp 1) (.ok s) = R := hR
  rw [hR'] at t1 t2
  rw [t1] at q1 q2
  have HLX := Lib.hid q1
  have HPQ : Hid (R.2.isBad = false → pf = R.1) := fun hb => by
   rw [q2 hb]
   cases hr : R.2 with
   | ok x => rw [t2 x hr]
   | bad e => rw [hr] at hb; cases hb
  clear q1 q2 t1 t2 hR hR' HRC HL5
  obtain ⟨sx, hx1, _, hx3, hx4, _⟩ := HLX.out.rd.rd
  have e0 := hx1.cell 0
  obtain ⟨bz, hbz⟩ : ∃ b, decide (sx.size = 0) = b := ⟨_, rfl⟩
  have hzz : ((sx.size : Int) == 0) = bz := by rw [← hbz]; exact beq_nat sx.size
  have HQ : Hid ((bodyS (16 * 1 + 0) s).2 = R.2.want bz 8) := by
   show _ = _
   rw [HRB.out]
   show R.2.want (decide (R.2.rest.size = 0)) 8 = _
   cases hbd : R.2.isBad with
   | false => have := hx3 hbd; rw [this]; show (St.ok sx).want (decide (sx.size = 0)) 8 = _; rw [hbz]
   | true => rw [(hx4 hbd).2]; rfl
  clear hx1 hx3 hx4 hbz
  go_wp2_with fail
  refine (want_st g R.2 bz 8 _ (by decide) HLX.out.rd).mono ?_
  rintro r w7 ⟨rfl, q1, q2⟩
  have HL8 := Lib.hid (HLX.out.bar q2 q1)
  have HK8 : Hid (Box w7 k0 (pkArr (zp 0) za)) := Lib.hid (HK0.out.below (HL8.out.b.mono (by have := HH.out; omega)))
  clear q1 q2 HLX e0 hzz
  go_upto_region 63 with fail
  obtain ⟨ste, hste⟩ : ∃ x, R.2.want bz 8 = x := ⟨_, rfl⟩
  rw [hste] at HL8 HQ
  have HCAP := Lib.hid HL8.out.cap
  have HNEW := Lib.hid (HL8.out.new.mono (B' := w.heap.size) (by have := H1.out; omega))
  have HWF : Hid ((bodyS (16 * 1 + 0) s).2.Wf) := by show St.Wf _; rw [HQ.out]; exact HL8.out.wf
  have HRES : Hid (Ending.returned (.tuple #[.agg (pkArr pf af), .int .i64 ste.err]) = .returned (.tuple #[.agg (pkArr pf af), .int .i64 (bodyS (16 * 1 + 0) s).2.err])) := by show _ = _; rw [HQ.out]
  have HPF : Hid ((bodyS (16 * 1 + 0) s).2.isBad = false → pf = (bodyS (16 * 1 + 0) s).1) := fun hb => by
   rw [HQ.out, ← hste] at hb
   rw [HRB.out]
   exact HPQ.out (not_bad hb)
  have HEN := Lib.hid (EndAt.mk (w := w) (k0 := k0) (g := g) (h := h) (st := ste) (p := pf) (a := af) (cs := pkArr (zp 0) za) ⟨HL8.out.rd, HL8.out.bx, HL8.out.at, HK8.out, rfl, (HA.out.trans (HL8.out.b.mono (by have := H1.out; omega))), by have := H1.out; omega, by omega, by omega, HL8.out.new.off hkl⟩)
  clear HL8 HK8 hste
  refine wp_region_held_drew (S := fun W => ∃ cs, EndAt false w k0 g h ste pf af cs W) (by kernel_rfl) ⟨_, HEN.out.drew⟩ (fun hHeld => ?_)
  generalize World.drew _ = Wd at hHeld ⊢
  refine take_load 0 273 30 (.tmp 8) h 0 (.agg (pkArr pf af)) rfl rfl (by kernel_rfl) (fun _ _ _ h => h) (by rfl) hHeld rfl rfl (fun w' hS' => load_bx hS'.choose_spec.out.2.1) ?_
  simp only [Act.put, List.setIfInBounds_toArray, List.set_cons_zero, List.set_cons_succ]
  refine take_op 1 274 ?v1 rfl rfl (by kernel_rfl) (fun _ _ _ h => h) (by rfl) hHeld (fun w' hS' => ?hv1) ?hh1
  case hv1 => (go_simp; try with_reducible rfl)
  simp only [Act.put, List.setIfInBounds_toArray, List.set_cons_zero, List.set_cons_succ]
  refine take_op 2 275 ?v2 rfl rfl (by kernel_rfl) (fun _ _ _ h => h) (by rfl) hHeld (fun w' hS' => ?hv2) ?hh2
  case hv2 => (go_simp; try with_reducible rfl)
  simp only [Act.put, List.setIfInBounds_toArray, List.set_cons_zero, List.set_cons_succ]
  refine take_op 3 276 ?v3 rfl rfl (by kernel_rfl) (fun _ _ _ h => h) (by rfl) hHeld (fun w' hS' => ?hv3) ?hh3
  case hv3 => (go_simp; try with_reducible rfl)
  simp only [Act.put, List.setIfInBounds_toArray, List.set_cons_zero, List.set_cons_succ]
  refine take_op 4 277 ?v4 rfl rfl (by kernel_rfl) (fun _ _ _ h => h) (by rfl) hHeld (fun w' hS' => ?hv4) ?hh4
  case hv4 => (have k := hS'.choose_spec.err; go_simp; try with_reducible rfl)
  simp only [Act.put, List.setIfInBounds_toArray, List.set_cons_zero, List.set_cons_succ]
  obtain ⟨cs, hcs⟩ := hHeld
  obtain ⟨T, hT⟩ := hcs.out.2.2.2.1
  refine only_op 5 rfl (by kernel_rfl) (by rfl) (wp_store_row 30 (.tmp 6) (.tmp 273) rfl k0 (pkArr pf af) rfl rfl T cs hT info_pk hcs.out.2.2.2.2.1 (one_pk _ _) ⟨⟨_, hcs.row⟩, ?_⟩)
  simp only [Act.put]
  have hHeld2 := hcs.row
  refine take_op 6 7 ?v6 rfl rfl (by kernel_rfl) (fun _ _ _ h => h) (by rfl) ⟨_, hHeld2⟩ (fun w' hS' => ?hv6) ?hh6
  case hv6 => (go_simp; try with_reducible rfl)
  simp only [Act.put, List.setIfInBounds_toArray]
  refine wpAnyH_done (by kernel_rfl) ?_ _
  have HF := Lib.hid hHeld2
  clear hcs hT hHeld2
  go_wp2_with fail
  refine bodyPost_ret (results_pk2 Tryz.results84 rfl HF.out.out.2.2.2.1 rfl) rfl ⟨pf, af, HRES.out, HF.out.out.2.2.1, HCAP.out, HNEW.out, HF.out.out.2.2.2.2.2.1, HWF.out, HPF.out⟩
 ·have hzn := ne_true hzf
  have HRB := Lib.hid (body_head 1 z s (by decide) (by decide) (by decide) hz0 hz1 (fun e => hzf e.symm))
  have hld := load_bx HL5.out.bx
  clear hzf HFB
  go_wp2_with (first | (refine wpList_load_any (by rfl) 30 (.tmp 8) rfl h 0 rfl _ hld ?_) | (refine wpList_store_whole rfl 30 (.tmp 6) (.tmp 52) rfl k0 (pkArr (zp 1) za) rfl rfl (pkArr (zp 0) za) HK5.out info_pk rfl (one_pk _ _) ?_; simp only [Act.put]))
  refine bodyPost_ret (results_pk2 Tryz.results84 rfl (HK5.out.row (pkArr (zp 1) za)) rfl) rfl ⟨zp 1, za, by rw [HRB.out]; rfl, PkAt.zero' _ _ _ ⟨rfl, rfl, rfl, rfl⟩, PkCap.zero' _ ⟨rfl, rfl, rfl, rfl⟩, .zero _, (Bar.row k0 w5 _).below HB5.out (by have := H1.out; omega) HB5.out.size, by rw [HRB.out]; exact (by decide : (8 : Int) ≠ 0), fun hb => by rw [HRB.out] at hb; cases hb⟩
open Go.RowKit Go.Lib Prp Pkt Vbi
theorem rbody_2 (z : Int) (s : ByteArray) (w : World) (hz0 : 0 ≤ z) (hz1 : z ≤ 15) (hs : s.size ≤ 268435456) :
  Calls Tryz.prog 84 #[.int .i64 2, .int .i64 z, .string s] w (GivesBody (bodyS (16 * 2 + z) s) w) := by
 have HF0 := hz0
 have HFB := Lib.hid HF0
 have HZ := Lib.hid hs
 have hb0 := Box.new w 30 (pkArr (zp 0) za)
 have ha := (Below.refl w.heap.size w).alloc (Nat.le_refl _) (.cells (pkArr (zp 0) za) 30)
 obtain ⟨W1, hW⟩ : ∃ W1, w.alloc (.cells (pkArr (zp 0) za) 30) = W1 := ⟨_, rfl⟩
 rw [hW] at hb0 ha
 simp only [pkArr, zp, za, zw, List.length_nil] at hW
 have HW := Lib.hid hW
 have HK0 := Lib.hid hb0
 have HA := Lib.hid ha
 clear hW hb0 ha HF0
 go_enter Tryz.func84, Tryz.ntmps84
 go_upto_region 1 with fail
 rw [HW.out]
 clear HW
 obtain ⟨k0, hk0⟩ : ∃ k, w.heap.size = k := ⟨_, rfl⟩
 have H2 := Lib.hid hk0
 rw [hk0] at HK0 ⊢
 clear hk0
 have hkl := HK0.out.lt
 have hb0 := Box.new W1 30 (pkArr (zp 0) za)
 have ha := (Below.refl W1.heap.size W1).alloc (Nat.le_refl _) (.cells (pkArr (zp 0) za) 30)
 obtain ⟨W2, hW⟩ : ∃ W2, W1.alloc (.cells (pkArr (zp 0) za) 30) = W2 := ⟨_, rfl⟩
 rw [hW] at hb0 ha
 simp only [pkArr, zp, za, zw, List.length_nil] at hW
 have HW := Lib.hid hW
 obtain ⟨h, hh⟩ : ∃ h, W1.heap.size = h := ⟨_, rfl⟩
 rw [hh] at hb0 ha hkl
 have HB2 := Lib.hid hb0
 have HA2 := Lib.hid ha
 have HH := Lib.hid hh
 clear hW hb0 ha
 go_upto_region 2 with (first | (refine wpList_build_kind rfl (.tmp 14) rfl 2 rfl ?_) | (rw [HW.out]; refine wpList_store_whole rfl 30 (.tmp 8) (.tmp 15) rfl h (pkArr (zp 2) za) rfl rfl (pkArr (zp 0) za) HB2.out info_pk rfl (one_pk _ _) ?_; simp only [Act.put]))
 have HB3 := Lib.hid (HB2.out.row (pkArr (zp 2) za))
 have HA3 := Lib.hid ((Bar.row h W2 (pkArr (zp 2) za)).below HA2.out (Nat.le_refl _) (by have := HA2.out.size; omega))
 clear HW HB2 HA2 hh
 generalize World.setRow _ _ _ = W3 at HB3 HA3 ⊢
 have hhl := HB3.out.lt
 go_upto_region 3 with fail
 have hr4 : RdOf false (W3.alloc (.cells #[.string s, .int .i64 0] 154)) W3.heap.size (.ok s) := ⟨Box.new W3 154 #[.string s, .int .i64 0], HZ.out⟩
 have ha4 := (Below.refl W3.heap.size W3).alloc (Nat.le_refl _) (.cells #[.string s, .int .i64 0] 154)
 obtain ⟨g, hg⟩ : ∃ g, W3.heap.size = g := ⟨_, rfl⟩
 rw [hg] at hr4 hhl ⊢
 have HL4 := Lib.hid (Live.mk (x := false) (B := h) (w0 := W1) (g := g) (h := h) (st := .ok s) (p := zp 2) (a := za) ⟨HA3.out.alloc (by omega) _, by omega, Nat.le_refl _, by omega, hr4, HB3.out.below (ha4.mono (by omega)), PkAt.zero' _ _ _ ⟨rfl, rfl, rfl, rfl⟩, .zero g, .zero h, PkCap.zero' _ ⟨rfl, rfl, rfl, rfl⟩, .zero h⟩)
 clear hr4 ha4 HA3 HB3 hg HZ
 generalize W3.alloc _ = W4 at HL4 ⊢
 have hld := load_bx HL4.out.bx
 go_wp2_with (refine wpList_load_any (by rfl) 30 (.tmp 8) rfl h 0 rfl _ hld ?_)
 refine (rflags_is (zp 2) za 0 W4 (by decide) (by decide) rfl).mono ?_
 rintro r w5 ⟨rfl, q1⟩
 have HL5 := Lib.hid (HL4.out.bar (Bar.of g q1) (HL4.out.rd.below q1))
 have HK5 : Hid (Box w5 k0 (pkArr (zp 0) za)) := Lib.hid (HK0.out.below (HL5.out.b.mono (by have := HH.out; omega)))
 have HB5 := Lib.hid (HA.out.trans (HL5.out.b.mono (by have := H2.out; omega)))
 clear q1 hld HL4
 by_cases hzf : z = 0
 ·subst hzf
  have HRB := Lib.hid (body_good 2 0 s (by decide) (by decide) (by decide) (by decide) (by decide) rfl)
  clear HK5 HB5 HFB
  obtain ⟨R, hR⟩ : ∃ R, partsS (zp 2) (.ok s) = R := ⟨_, rfl⟩
  rw [hR] at HRB
  obtain ⟨n0, hn0⟩ : ∃ n, ((St.ok s).run (fixR 1)).val 0 = n := ⟨_, rfl⟩
  obtain ⟨s0, hs0⟩ : ∃ x, ((St.ok s).run (fixR 1)).st = x := ⟨_, rfl⟩
  have HO1 := fixed_st g 1 (.ok s) w5 (by decide) HL5.out.rd
  rw [hn0, hs0] at HO1
  obtain ⟨b0, hb0⟩ : ∃ b, decide (n0 ≤ 1) = b := ⟨_, rfl⟩
  obtain ⟨s1, hs1⟩ : ∃ x, s0.want b0 8 = x := ⟨_, rfl⟩
  obtain ⟨n1, hn1⟩ : ∃ n, (s1.run (fixR 1)).val 0 = n := ⟨_, rfl⟩
  obtain ⟨s2, hs2⟩ : ∃ x, (s1.run (fixR 1)).st = x := ⟨_, rfl⟩
  obtain ⟨L, hL⟩ : ∃ x, (s2.run (propsR 2)).val [] = x := ⟨_, rfl⟩
  obtain ⟨s3, hs3⟩ : ∃ x, (s2.run (propsR 2)).st = x := ⟨_, rfl⟩
  obtain ⟨bp, hbp⟩ : ∃ b, decide (n0 = 1) = b := ⟨_, rfl⟩
  have hbp2 : (n0 == 1) = bp := by rw [beq_int, hbp]
  have HRR : Hid (R = ({ zp 2 with pre := bp, re := n1, ps := L }, s3)) := by show _ = _; rw [← hR]; subst hbp hs3 hL hs2 hn1 hs1 hb0 hs0 hn0; rfl
  have HO2 := fun (W : World) (hr : RdOf false W g s0) => want_st g s0 b0 8 W (by decide) hr
  rw [hs1] at HO2
  have HO3 := fun (W : World) (hr : RdOf false W g s1) => fixed_st g 1 s1 W (by decide) hr
  rw [hn1, hs2] at HO3
  have HO4 := fun (W : World) (hr : RdOf false W g s2) => props_st g 2 s2 W (by decide) hr
  rw [hL, hs3] at HO4
  have H1 := Lib.hid HO1
  have H2 := Lib.hid HO2
  have H3 := Lib.hid HO3
  have H4 := Lib.hid HO4
  clear HO1 HO2 HO3 HO4 hn0 hs0 hs1 hn1 hs2 hL hs3 hbp hR
  go_wp2_with fail
  refine H1.out.mono ?_
  rintro r w6 ⟨rfl, k1, k2⟩
  have HL6 := Lib.hid (HL5.out.bar k2 k1)
  clear k1 k2 HL5 H1
  go_wp2_with fail
  refine (H2.out _ HL6.out.rd).mono ?_
  rintro r w7 ⟨rfl, k1, k2⟩
  have HL7 := Lib.hid (HL6.out.bar k2 k1)
  clear k1 k2 HL6 H2 hb0
  have d8 := HL7.out.f8
  have f8 := HL7.out.frozen 8
  have HL8 := Lib.hid (HL7.out.put1 8 (.bool bp) { zp 2 with pre := bp } rfl rfl rfl rfl rfl)
  go_wp2_with fail
  refine (H3.out _ HL8.out.rd).mono ?_
  rintro r w8 ⟨rfl, k1, k2⟩
  have HL9 := Lib.hid (HL8.out.bar k2 k1)
  clear k1 k2 HL7 HL8 H3 d8 f8 hbp2
  have d7 := HL9.out.f7
  have f7 := HL9.out.frozen 7
  have HL10 := Lib.hid (HL9.out.put1 7 (.int .i64 n1) { zp 2 with pre := bp, re := n1 } rfl rfl rfl rfl rfl)
  go_wp2_with fail
  refine (H4.out _ HL10.out.rd).mono ?_
  rintro r w9 ⟨A, c, rfl, k1, k2, k3, k4, k5⟩
  have HL11 := Lib.hid (HL10.out.bar k5 k4)
  have HN := Lib.hid (HL10.out.off k2)
  have HAA := Lib.hid k3
  have HC := Lib.hid k1
  clear k1 k2 k3 k4 k5 d7 f7 HL9 HL10 H4
  have d24 := HL11.out.f24
  have f24 := HL11.out.frozen 24
  have HL12 := Lib.hid (HL11.out.props HAA.out HN.out HC.out)
  go_upto_region 62 with fail
  have HPQ : Hid (∃ pf af, Live false h W1 g h R.2 pf af (w9.setCell ⟨h, 24, none⟩ (.slice A L.length c)) ∧ (R.2.isBad = false → pf = R.1)) := ⟨_, _, by rw [HRR.out]; exact HL12.out, fun _ => by rw [HRR.out]⟩
  obtain ⟨pf, af, hl, hp⟩ := HPQ.out
  have HLX := Lib.hid hl
  have HPQ := Lib.hid hp
  clear hl hp HL11 HL12 d24 f24 HN HAA HC HRR
  generalize World.setCell _ _ _ = W9 at HLX ⊢
  obtain ⟨sx, hx1, _, hx3, hx4, _⟩ := HLX.out.rd.rd
  have e0 := hx1.cell 0
  obtain ⟨bz, hbz⟩ : ∃ b, decide (sx.size = 0) = b := ⟨_, rfl⟩
  have hzz : ((sx.size : Int) == 0) = bz := by rw [← hbz]; exact beq_nat sx.size
  have HQ : Hid ((bodyS (16 * 2 + 0) s).2 = R.2.want bz 8) := by
   show _ = _
   rw [HRB.out]
   show R.2.want (decide (R.2.rest.size = 0)) 8 = _
   cases hbd : R.2.isBad with
   | false => have := hx3 hbd; rw [this]; show (St.ok sx).want (decide (sx.size = 0)) 8 = _; rw [hbz]
   | true => rw [(hx4 hbd).2]; rfl
  clear hx1 hx3 hx4 hbz
  go_wp2_with fail
  refine (want_st g R.2 bz 8 _ (by decide) HLX.out.rd).mono ?_
  rintro r w7 ⟨rfl, q1, q2⟩
  have HL8 := Lib.hid (HLX.out.bar q2 q1)
  have HK8 : Hid (Box w7 k0 (pkArr (zp 0) za)) := Lib.hid (HK0.out.below (HL8.out.b.mono (by have := HH.out; omega)))
  clear q1 q2 HLX e0 hzz
  go_upto_region 63 with fail
  obtain ⟨ste, hste⟩ : ∃ x, R.2.want bz 8 = x := ⟨_, rfl⟩
  rw [hste] at HL8 HQ
  have HCAP := Lib.hid HL8.out.cap
  have HNEW := Lib.hid (HL8.out.new.mono (B' := w.heap.size) (by have := H2.out; omega))
  have HWF : Hid ((bodyS (16 * 2 + 0) s).2.Wf) := by show St.Wf _; rw [HQ.out]; exact HL8.out.wf
  have HRES : Hid (Ending.returned (.tuple #[.agg (pkArr pf af), .int .i64 ste.err]) = .returned (.tuple #[.agg (pkArr pf af), .int .i64 (bodyS (16 * 2 + 0) s).2.err])) := by show _ = _; rw [HQ.out]
  have HPF : Hid ((bodyS (16 * 2 + 0) s).2.isBad = false → pf = (bodyS (16 * 2 + 0) s).1) := fun hb => by
   rw [HQ.out, ← hste] at hb
   rw [HRB.out]
   exact HPQ.out (not_bad hb)
  have HEN := Lib.hid (EndAt.mk (w := w) (k0 := k0) (g := g) (h := h) (st := ste) (p := pf) (a := af) (cs := pkArr (zp 0) za) ⟨HL8.out.rd, HL8.out.bx, HL8.out.at, HK8.out, rfl, (HA.out.trans (HL8.out.b.mono (by have := H2.out; omega))), by have := H2.out; omega, by omega, by omega, HL8.out.new.off hkl⟩)
  clear HL8 HK8 hste
  refine wp_region_held_drew (S := fun W => ∃ cs, EndAt false w k0 g h ste pf af cs W) (by kernel_rfl) ⟨_, HEN.out.drew⟩ (fun hHeld => ?_)
  generalize World.drew _ = Wd at hHeld ⊢
  refine take_load 0 273 30 (.tmp 8) h 0 (.agg (pkArr pf af)) rfl rfl (by kernel_rfl) (fun _ _ _ h => h) (by rfl) hHeld rfl rfl (fun w' hS' => load_bx hS'.choose_spec.out.2.1) ?_
  simp only [Act.put, List.setIfInBounds_toArray, List.set_cons_zero, List.set_cons_succ]
  refine take_op 1 274 ?v1 rfl rfl (by kernel_rfl) (fun _ _ _ h => h) (by rfl) hHeld (fun w' hS' => ?hv1) ?hh1
  case hv1 => (go_simp; try with_reducible rfl)
  simp only [Act.put, List.setIfInBounds_toArray, List.set_cons_zero, List.set_cons_succ]
  refine take_op 2 275 ?v2 rfl rfl (by kernel_rfl) (fun _ _ _ h => h) (by rfl) hHeld (fun w' hS' => ?hv2) ?hh2
  case hv2 => (go_simp; try with_reducible rfl)
  simp only [Act.put, List.setIfInBounds_toArray, List.set_cons_zero, List.set_cons_succ]
  refine take_op 3 276 ?v3 rfl rfl (by kernel_rfl) (fun _ _ _ h => h) (by rfl) hHeld (fun w' hS' => ?hv3) ?hh3
  case hv3 => (go_simp; try with_reducible rfl)
  simp only [Act.put, List.setIfInBounds_toArray, List.set_cons_zero, List.set_cons_succ]
  refine take_op 4 277 ?v4 rfl rfl (by kernel_rfl) (fun _ _ _ h => h) (by rfl) hHeld (fun w' hS' => ?hv4) ?hh4
  case hv4 => (have k := hS'.choose_spec.err; go_simp; try with_reducible rfl)
  simp only [Act.put, List.setIfInBounds_toArray, List.set_cons_zero, List.set_cons_succ]
  obtain ⟨cs, hcs⟩ := hHeld
  obtain ⟨T, hT⟩ := hcs.out.2.2.2.1
  refine only_op 5 rfl (by kernel_rfl) (by rfl) (wp_store_row 30 (.tmp 6) (.tmp 273) rfl k0 (pkArr pf af) rfl rfl T cs hT info_pk hcs.out.2.2.2.2.1 (one_pk _ _) ⟨⟨_, hcs.row⟩, ?_⟩)
  simp only [Act.put]
  have hHeld2 := hcs.row
  refine take_op 6 7 ?v6 rfl rfl (by kernel_rfl) (fun _ _ _ h => h) (by rfl) ⟨_, hHeld2⟩ (fun w' hS' => ?hv6) ?hh6
  case hv6 => (go_simp; try with_reducible rfl)
  simp only [Act.put, List.setIfInBounds_toArray]
  refine wpAnyH_done (by kernel_rfl) ?_ _
  have HF := Lib.hid hHeld2
  clear hcs hT hHeld2
  go_wp2_with fail
  refine bodyPost_ret (results_pk2 Tryz.results84 rfl HF.out.out.2.2.2.1 rfl) rfl ⟨pf, af, HRES.out, HF.out.out.2.2.1, HCAP.out, HNEW.out, HF.out.out.2.2.2.2.2.1, HWF.out, HPF.out⟩
 ·have hzn := ne_true hzf
  have HRB := Lib.hid (body_head 2 z s (by decide) (by decide) (by decide) hz0 hz1 (fun e => hzf e.symm))
  have hld := load_bx HL5.out.bx
  clear hzf HFB
  go_wp2_with (first | (refine wpList_load_any (by rfl) 30 (.tmp 8) rfl h 0 rfl _ hld ?_) | (refine wpList_store_whole rfl 30 (.tmp 6) (.tmp 52) rfl k0 (pkArr (zp 2) za) rfl rfl (pkArr (zp 0) za) HK5.out info_pk rfl (one_pk _ _) ?_; simp only [Act.put]))
  refine bodyPost_ret (results_pk2 Tryz.results84 rfl (HK5.out.row (pkArr (zp 2) za)) rfl) rfl ⟨zp 2, za, by rw [HRB.out]; rfl, PkAt.zero' _ _ _ ⟨rfl, rfl, rfl, rfl⟩, PkCap.zero' _ ⟨rfl, rfl, rfl, rfl⟩, .zero _, (Bar.row k0 w5 _).below HB5.out (by have := H2.out; omega) HB5.out.size, by rw [HRB.out]; exact (by decide : (8 : Int) ≠ 0), fun hb => by rw [HRB.out] at hb; cases hb⟩
end Go.Proofs.YtdbbcfohjkgdcaaGreat
namespace Go.Proofs.YtdbbcfohjkgdcaaGreat.Pkt
open Prp Vbi
def emptied : St → St
 | .ok _ => .ok ⟨#[]⟩
 | .bad e => .bad e
theorem pub_end {st : St} {sx : ByteArray} {bb : Bool} (h3 : st.isBad = false → st = .ok sx) (hb : decide (sx.size ≤ 1024) = bb) :
  (bodyR st).2 = emptied (st.want bb 2) ∧ ((bodyR st).2.isBad = false → (bodyR st).1 = sx) := by
 cases st with
 | bad e => exact ⟨rfl, fun h => by cases h⟩
 | ok s =>
  have e : s = sx := by have := h3 rfl; injection this
  subst e
  subst hb
  unfold bodyR
  by_cases h : s.size ≤ 1024
  ·have h' : decide ((St.ok s).rest.size ≤ 1024) = true := decide_eq_true h
   rw [h', decide_eq_true h]
   exact ⟨rfl, fun _ => rfl⟩
  ·have h' : decide ((St.ok s).rest.size ≤ 1024) = false := decide_eq_false h
   rw [h', decide_eq_false h]
   exact ⟨rfl, fun hh => by cases hh⟩
def pub3 (z : Int) : Pk := { zp 3 with dup := decide (8 ≤ z), q := z / 2 % 4, ret := decide (z % 2 = 1) }
theorem head_3 {z : Int} (hz0 : 0 ≤ z) (hz1 : z ≤ 15) : headP (16 * 3 + z) = pub3 z ∧ headB (16 * 3 + z) = sendB (decide (8 ≤ z)) (z / 2 % 4) := by
 have e1 : (16 * 3 + z) / 16 = 3 := by omega
 have e2 : (16 * 3 + z) % 16 = z := by omega
 have e3 : decide ((16 * 3 + z) % 2 = 1) = decide (z % 2 = 1) := decide_eq_decide.2 (by omega)
 have eh : headP (16 * 3 + z) = pub3 z := by rw [headP_3 e1, e2, e3]; rfl
 refine ⟨eh, ?_⟩
 unfold headB
 rw [eh, e1, if_pos rfl]
 rfl
theorem body_3 {z : Int} (s : ByteArray) (hz0 : 0 ≤ z) (hz1 : z ≤ 15) (hb : sendB (decide (8 ≤ z)) (z / 2 % 4) = true) :
  bodyS (16 * 3 + z) s = ((publishS (pub3 z) (.ok s)).1, (publishS (pub3 z) (.ok s)).2.want (decide ((publishS (pub3 z) (.ok s)).2.rest.size = 0)) 8) := by
 unfold bodyS
 rw [(head_3 hz0 hz1).1, (head_3 hz0 hz1).2, hb]
 rfl
theorem body_3bad {z : Int} (s : ByteArray) (hz0 : 0 ≤ z) (hz1 : z ≤ 15) (hb : sendB (decide (8 ≤ z)) (z / 2 % 4) = false) :
  (bodyS (16 * 3 + z) s).2 = .bad 8 := by
 unfold bodyS
 rw [(head_3 hz0 hz1).1, (head_3 hz0 hz1).2, hb]
 show ((partsS _ (.bad 8)).2).want _ 8 = _
 rw [parts_bad]
 rfl
end Go.Proofs.YtdbbcfohjkgdcaaGreat.Pkt
namespace Go.Proofs.YtdbbcfohjkgdcaaGreat
open Go.RowKit Go.Lib Prp Pkt Vbi
theorem emptied_rd {w : World} {g : Nat} {st : St} (h : RdOf false w g st) : RdOf false (w.setCell ⟨g, 0, none⟩ (.string ⟨#[]⟩)) g (emptied st) := by
 cases st with
 | ok s => exact ⟨h.1.put0 _, show (0 : Nat) ≤ _ by omega⟩
 | bad e =>
  obtain ⟨h0, s, h1, h2, h3⟩ := h
  exact ⟨h0, ⟨#[]⟩, h1.put0 _, show (0 : Nat) ≤ _ by omega, fun _ => rfl⟩
end Go.Proofs.YtdbbcfohjkgdcaaGreat
