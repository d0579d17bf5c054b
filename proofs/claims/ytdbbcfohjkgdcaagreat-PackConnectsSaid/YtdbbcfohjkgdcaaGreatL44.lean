/- The document's own answer on packets: what stands behind the length of a Connect, without a will. -/
import Derived.Test.YtdbbcfohjkgdcaaGreatL00
import Derived.Test.YtdbbcfohjkgdcaaGreatL43
set_option maxRecDepth 100000
set_option maxHeartbeats 64000000
namespace Go.Proofs.YtdbbcfohjkgdcaaGreat
open Go.RowKit Go.Lib Prp Pkt Vbi Txt
def inB (n m : Int) : Bool := decide (0 ≤ n ∧ n ≤ m)
theorem ZNum_is (n m : Int) (b : Bool) (w : World) (hb : inB n m = b) :
  Calls Tryz.prog 34 #[.int .i64 n, .int .i64 m] w fun e w' => e = .returned (.bool b) ∧ w = w' := by
 subst hb
 go_enter Tryz.func34, Tryz.ntmps34
 go_wp2
 all_goals (go_ret; refine ⟨ret_bool ?_, rfl⟩; unfold inB; first | exact dec_false (by omega) | exact dec_dec (by omega) | exact dec_true (by omega))
def idB (n : Int) : Bool := decide (1 ≤ n ∧ n ≤ 65535)
theorem rid_is (n : Int) (b : Bool) (w : World) (hb : idB n = b) :
  Calls Tryz.prog 38 #[.int .i64 n] w fun e w' => e = .returned (.bool b) ∧ w = w' := by
 subst hb
 go_enter Tryz.func38, Tryz.ntmps38
 go_wp2
 all_goals (go_ret; refine ⟨ret_bool ?_, rfl⟩; unfold idB; first | exact dec_false (by omega) | exact dec_dec (by omega) | exact dec_true (by omega))
theorem rtext_is (s : ByteArray) (b : Bool) (w : World) (hb : textB s = b) :
  Calls Tryz.prog 36 #[.string s] w fun e w' => e = .returned (.bool b) ∧ w = w' := by
 obtain ⟨E, hE⟩ : ∃ E, textErr s.data.toList = E := ⟨_, rfl⟩
 have HT := Lib.hid (fun W => RText_eq s E W hE)
 have HB : Hid (b = (E == 0)) := by
  show _ = _
  rw [← hb]
  unfold textB loErr
  rw [if_pos rfl, hE]
  rfl
 clear hb hE
 go_enter Tryz.func36, Tryz.ntmps36
 go_wp2_with (go_at_call 75; refine (HT.out _).mono ?_; rintro e w' ⟨rfl, rfl⟩)
 go_ret
 exact ⟨by rw [HB.out]; rfl, rfl⟩
theorem one_is (n : Int) (S : ByteArray) (w : World) (h0 : 0 ≤ n) (h1 : n ≤ 255) (hS : strOfNums [n] = S) :
  Calls Tryz.prog 40 #[.int .i64 n] w fun e w' => e = .returned (.string S) ∧ Below w.heap.size w w' := by
 have HS := Lib.hid hS
 clear hS
 have hcv := conv_byte n
 have hz : IntKind.u8.wrap n = n := by unfold IntKind.wrap; simp [IntKind.bits, IntKind.signed]; omega
 go_enter Tryz.func40, Tryz.ntmps40
 go_wp2_with fail
 go_ret
 exact ⟨by rw [← HS.out]; rfl, (Below.refl _ _).alloc (Nat.le_refl _) _⟩
theorem long_is (s S : ByteArray) (w : World) (hs : s.size < 65536) (hS : lgStr s = S) :
  Calls Tryz.prog 76 #[.string s] w fun e w' => e = .returned (.string S) ∧ Below w.heap.size w w' := by
 obtain ⟨T, hT⟩ : ∃ T, strOfNums (fixZ 2 s.size) = T := ⟨_, rfl⟩
 have hz : T.size ≤ 2 := by rw [← hT, fix2_size]; omega
 have HF := Lib.hid (fun W => RFixed_two s.size T W hs hT)
 have HS : Hid (S = T ++ s) := by show _ = _; rw [← hS, ← hT]; rfl
 clear hS hT
 go_enter Tryz.func76, Tryz.ntmps76
 go_wp2_with (go_at_call 78; refine (HF.out _).mono ?_; rintro e w1 ⟨rfl, hb⟩)
 go_ret
 exact ⟨by rw [HS.out]; rfl, hb⟩
open Go.RowKit Go.Lib Prp Pkt Vbi
def goodP (p : Pk) : Bool := mayP p && allOk (partsL p)
theorem pack_good (p : Pk) : packB p = (goodP p && decide ((strP p).size ≤ 8192)) := by unfold packB goodP; rw [Bool.and_assoc]
theorem goodL_all {place : Int} {a l : List P} (h : goodL place a l = true) : ∀ p ∈ l, kindZ p.id ≠ 0 ∧ valB (kindZ p.id) p = true := by
 induction l generalizing a with
 | nil => intro p hp; cases hp
 | cons x t ih =>
  unfold goodL at h
  rw [Bool.and_eq_true] at h
  intro p hp
  rcases List.mem_cons.1 hp with rfl | hp
  ·have h1 := h.1
   unfold goodB fitsB at h1
   simp only [Bool.and_eq_true, decide_eq_true_eq] at h1
   exact ⟨h1.2.1.1, h1.2.1.2.2⟩
  ·exact ih h.2 p hp
theorem props_all {place : Int} {l : List P} (h : propsB place l = true) : l.length ≤ 8 ∧ ∀ p ∈ l, kindZ p.id ≠ 0 ∧ valB (kindZ p.id) p = true := by
 unfold propsB at h
 simp only [Bool.and_eq_true, decide_eq_true_eq] at h
 exact ⟨h.2.1, goodL_all h.2.2⟩
theorem restStr_size {l : List P} (h : ∀ p ∈ l, kindZ p.id ≠ 0 ∧ valB (kindZ p.id) p = true) : (restStr l).size ≤ 2053 * l.length := by
 have key : ∀ (l : List P) (s : ByteArray), (∀ p ∈ l, kindZ p.id ≠ 0 ∧ valB (kindZ p.id) p = true) → (l.foldl (fun a p => a ++ oneStr p) s).size ≤ s.size + 2053 * l.length := by
  intro l
  induction l with
  | nil => intro s _; simp
  | cons x t ih =>
   intro s hx
   have h1 := hx x (by simp)
   have h2 := ih (s ++ oneStr x) (fun p hp => hx p (by simp [hp]))
   have h3 : (oneStr x).size ≤ 2053 := one_size x.id x.n x.s x.v h1.1 h1.2
   rw [ByteArray.size_append] at h2
   rw [List.foldl_cons, List.length_cons]
   omega
 have := key l ⟨#[]⟩ h
 have e : (⟨#[]⟩ : ByteArray).size = 0 := rfl
 rw [e] at this
 unfold restStr
 omega
theorem propStr_size {place : Int} {l : List P} (h : propsB place l = true) : (propStr l).size ≤ 16428 := by
 obtain ⟨h1, h2⟩ := props_all h
 have h3 := restStr_size h2
 unfold propStr
 rw [ByteArray.size_append, strOfNums_size, numZ_len (by omega)]
 have := (numLen_le (restStr l).size).2
 omega
theorem PropBytes_ok (place : Int) (l : List P) (A : Option Addr) (c : Nat) (S : ByteArray) (w : World) (hp : propsB place l = true) (h : PropsAt w w.heap.size A l) (hS : propStr l = S) :
  Calls Tryz.prog 79 #[.slice A l.length c] w fun e w' => e = .returned (.string S) ∧ Below w.heap.size w w' :=
 RPropBytes_is l A c S w (props_all hp).1 (props_all hp).2 h hS
theorem lgStr_size (s : ByteArray) : (lgStr s).size = 2 + s.size := by unfold lgStr; rw [ByteArray.size_append, fix2_size]
theorem fxStr_size (n : Int) : (fxStr n).size = 2 := fix2_size _
theorem good_parts {p : Pk} (h : goodP p = true) : mayP p = true ∧ allOk (partsL p) = true := by unfold goodP at h; rwa [Bool.and_eq_true] at h
open Go.RowKit Go.Lib Prp Pkt
theorem fit_len {p : Pk} {a : Ad} (h : PkFit p a) : PkLen p := ⟨h.cl1.1, h.fl1.1, h.wl1.1, h.pl1.1⟩
open Go.RowKit Go.Lib Prp Pkt Vbi
theorem eq_1 {p : Pk} (hk : p.kind = 1) : eqP p { zp 1 with cl := p.cl, clean := p.clean, keep := p.keep, w := p.w, hu := p.hu, u := p.u, hp := p.hp, pw := p.pw, ps := p.ps } = fieldB p := by
 rw [Bool.eq_iff_iff]
 simp [eqP, eqW, fieldB, fieldOf, b1, b3, wFilled, E, zp, zw, hk]
 grind
open Go.RowKit Go.Lib Prp Pkt Vbi
theorem goodP_eq (p : Pk) : goodP p = (mayP p && allOk (partsL p)) := rfl
theorem re_zero {p : Pk} (hF : fieldB p = true) (h : p.kind = 1 ∨ p.kind = 3 ∨ p.kind = 8 ∨ p.kind = 9 ∨ p.kind = 10 ∨ p.kind = 11) : p.re = 0 := by
 unfold fieldB fieldOf at hF
 simp only [Bool.and_eq_true, Bool.or_eq_true, Bool.not_eq_true', decide_eq_true_eq, bne_eq_false_iff_eq] at hF
 rcases hF.2.2.2.2.1 with h1 | h1
 ·exact h1
 ·omega
def dq1 (p : Pk) : Bool := textB p.cl && (inB p.keep 65535 && (inB p.w.q 2 && (textB p.u && (decide (p.pw.size ≤ 1024) && ((p.hu || E p.u) && (p.hp || E p.pw))))))
def dw1 (p : Pk) : Bool := if p.w.has = true then propsB 0 p.w.ps && (!E p.w.t && (textB p.w.t && decide (p.w.b.size ≤ 1024))) else eqW p.w zw
theorem eq_will (w : Wl) (h : w.has = false) : eqW w zw = !wFilled w := by
 rw [Bool.eq_iff_iff]
 simp [eqW, wFilled, E, zw, h]
 try exact ⟨fun ⟨a, b, c, d, e⟩ => ⟨of_decide_eq_true a, of_decide_eq_true b, of_decide_eq_true c, of_decide_eq_true d, e⟩, fun ⟨a, b, c, d, e⟩ => ⟨decide_eq_true a, decide_eq_true b, decide_eq_true c, decide_eq_true d, e⟩⟩
theorem bitZ_two (b : Bool) (n : Int) : bitZ b n = 0 ∨ bitZ b n = n := by cases b <;> simp [bitZ]
theorem login_in {p : Pk} (h : inB p.w.q 2 = true) : 0 ≤ loginZ p ∧ loginZ p ≤ 255 := by
 unfold inB at h
 have h' := of_decide_eq_true h
 unfold loginZ
 have a := bitZ_two p.clean 2
 have b := bitZ_two p.w.has 4
 have c := bitZ_two p.w.ret 32
 have d := bitZ_two p.hp 64
 have e := bitZ_two p.hu 128
 omega
theorem text_none : textB ⟨#[]⟩ = true := by kernel_rfl
theorem short_in (n : Int) : (Part.short n).okB = inB n 65535 := by
 unfold Part.okB inB
 exact decide_eq_decide.2 (by omega)
theorem doc_1 {p : Pk} (hk : p.kind = 1) : goodP p = (inB p.re 255 && (propsB 1 p.ps && ((dq1 p && dw1 p) && eqP p { zp 1 with ps := p.ps, cl := p.cl, clean := p.clean, keep := p.keep, w := p.w, hu := p.hu, u := p.u, hp := p.hp, pw := p.pw }))) := by
 have e := eq_1 hk
 rw [e, goodP_eq]
 cases hF : fieldB p with
 | false => simp [mayP, hF]
 | true =>
  rw [re_zero hF (.inl hk), show inB 0 255 = true from rfl]
  have hm : mayP p = logInB p := by simp [mayP, hk, hF]
  have hp : partsL p = connectL p := by simp [partsL, hk]
  have ho : Part.okB (.props p.kind p.ps) = propsB 1 p.ps := by rw [hk]; rfl
  have h1 : Part.okB (.words mqtt) = true := by show textB mqtt = true; kernel_rfl
  have h5 : Part.okB (.octet 5) = true := rfl
  rw [hm, hp]
  unfold connectL
  rw [allOk_app, allOk_app, allOk_app]
  have hc : allOk [.words mqtt, .octet 5, .octet (loginZ p), .short p.keep, .props p.kind p.ps, .words p.cl] = ((Part.octet (loginZ p)).okB && (inB p.keep 65535 && (propsB 1 p.ps && textB p.cl))) := by
   simp only [allOk, List.all_cons, List.all_nil, h1, h5, ho, short_in, Bool.true_and, Bool.and_true]
   rfl
  have hw : allOk (willL p) = (!p.w.has || (propsB 0 p.w.ps && (textB p.w.t && decide (p.w.b.size ≤ 1024)))) := by
   unfold willL
   cases p.w.has
   ·rfl
   ·show allOk [_, _, _] = _
    simp only [allOk, List.all_cons, List.all_nil, Bool.and_true]
    rfl
  have hu : allOk (userL p) = (!p.hu || textB p.u) := by
   unfold userL
   cases p.hu
   ·rfl
   ·show allOk [_] = _
    simp only [allOk, List.all_cons, List.all_nil, Bool.and_true]
    rfl
  have hpw : allOk (passL p) = (!p.hp || decide (p.pw.size ≤ 1024)) := by
   unfold passL
   cases p.hp
   ·rfl
   ·show allOk [_] = _
    simp only [allOk, List.all_cons, List.all_nil, Bool.and_true]
    rfl
  rw [hc, hw, hu, hpw]
  unfold logInB dq1 dw1
  have hq : qosB p.w.q = inB p.w.q 2 := rfl
  rw [hq]
  have hu0 : E p.u = true → textB p.u = true := fun h => by rw [show p.u = ⟨#[]⟩ from of_decide_eq_true h]; exact text_none
  have hp0 : E p.pw = true → decide (p.pw.size ≤ 1024) = true := fun h => by rw [show p.pw = ⟨#[]⟩ from of_decide_eq_true h]; rfl
  by_cases hh : p.w.has = true
  ·rw [if_pos hh, if_pos hh, hh]
   cases hq2 : inB p.w.q 2 with
   | false => simp
   | true =>
    have hl : (Part.octet (loginZ p)).okB = true := decide_eq_true (login_in hq2)
    rw [hl]
    revert hu0 hp0
    generalize textB p.u = x1
    generalize E p.u = x2
    generalize decide (p.pw.size ≤ 1024) = x3
    generalize E p.pw = x4
    generalize p.hu = x5
    generalize p.hp = x6
    generalize propsB 0 p.w.ps = x7
    generalize E p.w.t = x8
    generalize textB p.w.t = x9
    generalize decide (p.w.b.size ≤ 1024) = y1
    generalize inB p.keep 65535 = y2
    generalize propsB 1 p.ps = y3
    generalize textB p.cl = y4
    intro hu0 hp0
    cases x1 <;> cases x2 <;> cases x3 <;> cases x4 <;> cases x5 <;> cases x6 <;> simp_all <;> (cases x7 <;> cases x8 <;> cases x9 <;> cases y1 <;> cases y2 <;> cases y3 <;> cases y4 <;> rfl)
  ·have hh' : p.w.has = false := by simpa using hh
   rw [if_neg hh, if_neg hh, hh', eq_will p.w hh']
   cases hwf : wFilled p.w with
   | true => simp
   | false =>
    have hz : p.w.q = 0 := by
     unfold wFilled at hwf
     simp only [Bool.or_eq_false_iff, decide_eq_false_iff_not, Decidable.not_not] at hwf
     exact hwf.2.1
    have hq2 : inB p.w.q 2 = true := by rw [hz]; rfl
    have hl : (Part.octet (loginZ p)).okB = true := decide_eq_true (login_in hq2)
    rw [hl, hq2]
    revert hu0 hp0
    generalize textB p.u = x1
    generalize E p.u = x2
    generalize decide (p.pw.size ≤ 1024) = x3
    generalize E p.pw = x4
    generalize p.hu = x5
    generalize p.hp = x6
    generalize inB p.keep 65535 = y2
    generalize propsB 1 p.ps = y3
    generalize textB p.cl = y4
    intro hu0 hp0
    cases x1 <;> cases x2 <;> cases x3 <;> cases x4 <;> cases x5 <;> cases x6 <;> simp_all <;> (cases y2 <;> cases y3 <;> cases y4 <;> rfl)
open Go.RowKit Go.Lib Prp Pkt Vbi
theorem login_eq (p : Pk) : 2 * bitZ p.clean 1 + 4 * bitZ p.w.has 1 + 8 * p.w.q + 32 * bitZ p.w.ret 1 + 64 * bitZ p.hp 1 + 128 * bitZ p.hu 1 = loginZ p := by
 unfold loginZ bitZ
 cases p.clean <;> cases p.w.has <;> cases p.w.ret <;> cases p.hp <;> cases p.hu <;> simp
theorem login_range {p : Pk} (h0 : 0 ≤ p.w.q) (h1 : p.w.q ≤ 2) : 0 ≤ loginZ p ∧ loginZ p ≤ 255 := by
 have r1 := bit_range p.clean (n := 2) (by omega)
 have r2 := bit_range p.w.has (n := 4) (by omega)
 have r3 := bit_range p.w.ret (n := 32) (by omega)
 have r4 := bit_range p.hp (n := 64) (by omega)
 have r5 := bit_range p.hu (n := 128) (by omega)
 unfold loginZ
 omega
theorem rest_1000 (p : Pk) (a : Ad) (S : ByteArray) (w : World) (h : PkAt w w.heap.size p a) (hk : p.kind = 1) (hq0 : 0 ≤ p.w.q) (hq1 : p.w.q ≤ 2) (hkp : 0 ≤ p.keep ∧ p.keep < 65536) (hps : propsB p.kind p.ps = true) (hcl : p.cl.size ≤ 1024) (hh : p.w.has = false) (hu : p.hu = false) (hp : p.hp = false) (hS : (((((lgStr mqtt ++ strOfNums [5]) ++ strOfNums [loginZ p]) ++ fxStr p.keep) ++ propStr p.ps) ++ lgStr p.cl) = S) :
  Calls Tryz.prog 39 #[.agg (pkArr p a)] w fun e w' => e = .returned (.string S) ∧ Below w.heap.size w w' := by
 have H := Lib.hid h
 clear h
 obtain ⟨P, hPP⟩ : ∃ P, propStr p.ps = P := ⟨_, rfl⟩
 have hPz : P.size ≤ 16428 := by rw [← hPP]; exact propStr_size hps
 obtain ⟨LM, hLM⟩ : ∃ T, lgStr mqtt = T := ⟨_, rfl⟩
 have zLM : LM.size ≤ 1026 := by rw [← hLM, lgStr_size]; decide
 have HLM := Lib.hid (fun W => long_is mqtt LM W (by decide) hLM)
 obtain ⟨LC, hLC⟩ : ∃ T, lgStr p.cl = T := ⟨_, rfl⟩
 have zLC : LC.size ≤ 1026 := by rw [← hLC, lgStr_size]; omega
 have HLC := Lib.hid (fun W => long_is p.cl LC W (by omega) hLC)
 obtain ⟨F, hF⟩ : ∃ F, fxStr p.keep = F := ⟨_, rfl⟩
 have hFz : F.size ≤ 2 := by rw [← hF, fxStr_size]; omega
 have HF := Lib.hid (fun W => RFixed_z2 p.keep F W hkp.1 hkp.2 hF)
 obtain ⟨O5, hO5⟩ : ∃ O, strOfNums [5] = O := ⟨_, rfl⟩
 have zO5 : O5.size ≤ 1 := by rw [← hO5, strOfNums_size]; simp
 have HO5 := Lib.hid (fun W => one_is 5 O5 W (by decide) (by decide) hO5)
 have hlr := login_range hq0 hq1
 have hle := login_eq p
 obtain ⟨z, hz⟩ : ∃ z, loginZ p = z := ⟨_, rfl⟩
 rw [hz] at hlr hS hle
 obtain ⟨OZ, hOZ⟩ : ∃ O, strOfNums [z] = O := ⟨_, rfl⟩
 have zOZ : OZ.size ≤ 1 := by rw [← hOZ, strOfNums_size]; simp
 have HOZ := Lib.hid (fun W => one_is z OZ W hlr.1 hlr.2 hOZ)
 rw [hO5, hOZ, hF, hLM, hLC, hPP] at hS
 have r1 := bit_range p.clean (n := 1) (by omega)
 have r2 := bit_range p.w.has (n := 1) (by omega)
 have r3 := bit_range p.w.ret (n := 1) (by omega)
 have r4 := bit_range p.hp (n := 1) (by omega)
 have r5 := bit_range p.hu (n := 1) (by omega)
 have m1 : IntKind.i64.wrap (2 * bitZ p.clean 1) = 2 * bitZ p.clean 1 := IntWalk.i64_in _ (by omega)
 have m2 : IntKind.i64.wrap (4 * bitZ p.w.has 1) = 4 * bitZ p.w.has 1 := IntWalk.i64_in _ (by omega)
 have m3 : IntKind.i64.wrap (8 * p.w.q) = 8 * p.w.q := IntWalk.i64_in _ (by omega)
 have m4 : IntKind.i64.wrap (32 * bitZ p.w.ret 1) = 32 * bitZ p.w.ret 1 := IntWalk.i64_in _ (by omega)
 have m5 : IntKind.i64.wrap (64 * bitZ p.hp 1) = 64 * bitZ p.hp 1 := IntWalk.i64_in _ (by omega)
 have m6 : IntKind.i64.wrap (128 * bitZ p.hu 1) = 128 * bitZ p.hu 1 := IntWalk.i64_in _ (by omega)
 have n1 : IntKind.i64.wrap (2 * bitZ p.clean 1 + 4 * bitZ p.w.has 1) = 2 * bitZ p.clean 1 + 4 * bitZ p.w.has 1 := IntWalk.i64_in _ (by omega)
 have n2 : IntKind.i64.wrap (2 * bitZ p.clean 1 + 4 * bitZ p.w.has 1 + 8 * p.w.q) = 2 * bitZ p.clean 1 + 4 * bitZ p.w.has 1 + 8 * p.w.q := IntWalk.i64_in _ (by omega)
 have n3 : IntKind.i64.wrap (2 * bitZ p.clean 1 + 4 * bitZ p.w.has 1 + 8 * p.w.q + 32 * bitZ p.w.ret 1) = 2 * bitZ p.clean 1 + 4 * bitZ p.w.has 1 + 8 * p.w.q + 32 * bitZ p.w.ret 1 := IntWalk.i64_in _ (by omega)
 have n4 : IntKind.i64.wrap (2 * bitZ p.clean 1 + 4 * bitZ p.w.has 1 + 8 * p.w.q + 32 * bitZ p.w.ret 1 + 64 * bitZ p.hp 1) = 2 * bitZ p.clean 1 + 4 * bitZ p.w.has 1 + 8 * p.w.q + 32 * bitZ p.w.ret 1 + 64 * bitZ p.hp 1 := IntWalk.i64_in _ (by omega)
 have n5 : IntKind.i64.wrap (2 * bitZ p.clean 1 + 4 * bitZ p.w.has 1 + 8 * p.w.q + 32 * bitZ p.w.ret 1 + 64 * bitZ p.hp 1 + 128 * bitZ p.hu 1) = z := by rw [← hle]; exact IntWalk.i64_in _ (by omega)
 have HP := Lib.hid (fun (W : World) (h : KP w w.heap.size p a W) => PropBytes_ok p.kind p.ps a.pa a.pc P W hps h.at.ps hPP)
 have HS := Lib.hid hS
 have e1 : (p.kind == 1) = true := beq_iff_eq.2 (by omega)
 have HH := Lib.hid hh
 have HU := Lib.hid hu
 have HPP := Lib.hid hp
 clear hS hh hu hp hle hz hOZ hO5 hF hLM hLC hPP hps hkp hcl hlr r1 r2 r3 r4 r5 hk hq0 hq1
 have HK0 := Keep.new w 30 (pkArr p a)
 obtain ⟨W1, hW⟩ : ∃ W1, w.alloc (.cells (pkArr p a) 30) = W1 := ⟨_, rfl⟩
 rw [hW] at HK0
 unfold pkArr at hW ⊢
 have HW := Lib.hid hW
 clear hW
 go_enter Tryz.func39, Tryz.ntmps39
 go_upto_region 2 with fail
 rw [HW.out]
 generalize Value.agg _ = v0
 obtain ⟨g, hg⟩ : ∃ g, w.heap.size = g := ⟨_, rfl⟩
 rw [hg] at HK0 ⊢
 have HK := Lib.hid (KP.new HK0 H.out)
 clear HW HK0 H
 rw [hg] at HP
 have HG := Lib.hid hg
 clear hg
 have c0 := HK.out.k.f0
 have c14 := HK.out.k.f14
 have c15 := HK.out.k.f15
 have c16 := HK.out.k.f16
 have c17 := HK.out.k.f17
 have c18 := HK.out.k.f18
 have c19 := HK.out.k.f19
 have hk2 := HK.out.alloc (.cells (wlArr p.w a.wa a.wc) 28)
 have hb2 := Box.new W1 28 (wlArr p.w a.wa a.wc)
 obtain ⟨W2, h2⟩ : ∃ W2, W1.alloc (.cells (wlArr p.w a.wa a.wc) 28) = W2 := ⟨_, rfl⟩
 rw [h2] at hk2 hb2
 unfold wlArr at h2
 have H2 := Lib.hid h2
 clear h2
 go_upto_region 5 with fail
 rw [H2.out]
 obtain ⟨h, hhh⟩ : ∃ h, W1.heap.size = h := ⟨_, rfl⟩
 rw [hhh] at hb2 ⊢
 have st0 := KQ.mk hk2 hb2
 clear hk2 hb2 H2 HK c0 c14 c15 c16 c17 c18 c19 hhh
 haveI : Nonempty (In (KQ w g p a h (wlArr p.w a.wa a.wc))) := ⟨⟨_, st0⟩⟩
 have k11 := fun u : In (KQ w g p a h (wlArr p.w a.wa a.wc)) => u.h.k.f11
 have k12 := fun u : In (KQ w g p a h (wlArr p.w a.wa a.wc)) => u.h.k.f12
 have k13 := fun u : In (KQ w g p a h (wlArr p.w a.wa a.wc)) => u.h.k.f13
 have k20 := fun u : In (KQ w g p a h (wlArr p.w a.wa a.wc)) => u.h.k.f20
 have k22 := fun u : In (KQ w g p a h (wlArr p.w a.wa a.wc)) => u.h.k.f22
 have k24 := fun u : In (KQ w g p a h (wlArr p.w a.wa a.wc)) => u.h.k.f24
 have j0 := fun u : In (KQ w g p a h (wlArr p.w a.wa a.wc)) => u.h.w0
 have j1 := fun u : In (KQ w g p a h (wlArr p.w a.wa a.wc)) => u.h.w1
 have j2 := fun u : In (KQ w g p a h (wlArr p.w a.wa a.wc)) => u.h.w2
 refine region_in (S := KQ w g p a h (wlArr p.w a.wa a.wc)) (by kernel_rfl) (by kernel_rfl) (st0.drewN 1) ?_
 repeat (go_big_quiet_step (first | (go_at_call 77; exact in_call ((rbit_is _ _ _ rfl).mono fun _ _ h => ⟨h.1, by rw [← h.2]; exact In.h _⟩)) | (go_at_call 76; exact in_call ((HLM.out _).mono fun _ _ h => ⟨h.1, KQ.below (In.h _) h.2⟩)) | (go_at_call 76; exact in_call ((HLC.out _).mono fun _ _ h => ⟨h.1, KQ.below (In.h _) h.2⟩)) | (go_at_call 40; exact in_call ((HO5.out _).mono fun _ _ h => ⟨h.1, KQ.below (In.h _) h.2⟩)) | (go_at_call 40; exact in_call ((HOZ.out _).mono fun _ _ h => ⟨h.1, KQ.below (In.h _) h.2⟩)) | (go_at_call 78; exact in_call ((HF.out _).mono fun _ _ h => ⟨h.1, KQ.below (In.h _) h.2⟩)) | (go_at_call 79; exact in_call ((HP.out _ (KQ.out (In.h _)).1).mono fun _ _ h => ⟨h.1, KQ.below (In.h _) h.2⟩))))
 refine wpQuiet_nil ?_
 rintro _ ⟨⟨w2, st2⟩, rfl⟩
 clear this st0 k11 k12 k13 k20 k22 k24 j0 j1 j2 m1 m2 m3 m4 m5 m6 n1 n2 n3 n4 n5 HLM HLC HF HO5 HOZ HP
 have v0 := st2.w0
 rw [HH.out] at v0
 have c20 := st2.k.f20
 rw [HU.out] at c20
 have c22 := st2.k.f22
 rw [HPP.out] at c22
 have c23 := st2.k.f23
 go_wp2_with (fail)
 go_ret
 exact ⟨by rw [← HS.out]; rfl, st2.out.1.b⟩
theorem rest_1001 (p : Pk) (a : Ad) (S : ByteArray) (w : World) (h : PkAt w w.heap.size p a) (hk : p.kind = 1) (hq0 : 0 ≤ p.w.q) (hq1 : p.w.q ≤ 2) (hkp : 0 ≤ p.keep ∧ p.keep < 65536) (hps : propsB p.kind p.ps = true) (hcl : p.cl.size ≤ 1024) (hh : p.w.has = false) (hu : p.hu = false) (hp : p.hp = true) (hpz : p.pw.size ≤ 1024) (hS : ((((((lgStr mqtt ++ strOfNums [5]) ++ strOfNums [loginZ p]) ++ fxStr p.keep) ++ propStr p.ps) ++ lgStr p.cl) ++ lgStr p.pw) = S) :
  Calls Tryz.prog 39 #[.agg (pkArr p a)] w fun e w' => e = .returned (.string S) ∧ Below w.heap.size w w' := by
 have H := Lib.hid h
 clear h
 obtain ⟨P, hPP⟩ : ∃ P, propStr p.ps = P := ⟨_, rfl⟩
 have hPz : P.size ≤ 16428 := by rw [← hPP]; exact propStr_size hps
 obtain ⟨LM, hLM⟩ : ∃ T, lgStr mqtt = T := ⟨_, rfl⟩
 have zLM : LM.size ≤ 1026 := by rw [← hLM, lgStr_size]; decide
 have HLM := Lib.hid (fun W => long_is mqtt LM W (by decide) hLM)
 obtain ⟨LC, hLC⟩ : ∃ T, lgStr p.cl = T := ⟨_, rfl⟩
 have zLC : LC.size ≤ 1026 := by rw [← hLC, lgStr_size]; omega
 have HLC := Lib.hid (fun W => long_is p.cl LC W (by omega) hLC)
 obtain ⟨LP, hLP⟩ : ∃ T, lgStr p.pw = T := ⟨_, rfl⟩
 have zLP : LP.size ≤ 1026 := by rw [← hLP, lgStr_size]; omega
 have HLP := Lib.hid (fun W => long_is p.pw LP W (by omega) hLP)
 obtain ⟨F, hF⟩ : ∃ F, fxStr p.keep = F := ⟨_, rfl⟩
 have hFz : F.size ≤ 2 := by rw [← hF, fxStr_size]; omega
 have HF := Lib.hid (fun W => RFixed_z2 p.keep F W hkp.1 hkp.2 hF)
 obtain ⟨O5, hO5⟩ : ∃ O, strOfNums [5] = O := ⟨_, rfl⟩
 have zO5 : O5.size ≤ 1 := by rw [← hO5, strOfNums_size]; simp
 have HO5 := Lib.hid (fun W => one_is 5 O5 W (by decide) (by decide) hO5)
 have hlr := login_range hq0 hq1
 have hle := login_eq p
 obtain ⟨z, hz⟩ : ∃ z, loginZ p = z := ⟨_, rfl⟩
 rw [hz] at hlr hS hle
 obtain ⟨OZ, hOZ⟩ : ∃ O, strOfNums [z] = O := ⟨_, rfl⟩
 have zOZ : OZ.size ≤ 1 := by rw [← hOZ, strOfNums_size]; simp
 have HOZ := Lib.hid (fun W => one_is z OZ W hlr.1 hlr.2 hOZ)
 rw [hO5, hOZ, hF, hLM, hLC, hPP, hLP] at hS
 have r1 := bit_range p.clean (n := 1) (by omega)
 have r2 := bit_range p.w.has (n := 1) (by omega)
 have r3 := bit_range p.w.ret (n := 1) (by omega)
 have r4 := bit_range p.hp (n := 1) (by omega)
 have r5 := bit_range p.hu (n := 1) (by omega)
 have m1 : IntKind.i64.wrap (2 * bitZ p.clean 1) = 2 * bitZ p.clean 1 := IntWalk.i64_in _ (by omega)
 have m2 : IntKind.i64.wrap (4 * bitZ p.w.has 1) = 4 * bitZ p.w.has 1 := IntWalk.i64_in _ (by omega)
 have m3 : IntKind.i64.wrap (8 * p.w.q) = 8 * p.w.q := IntWalk.i64_in _ (by omega)
 have m4 : IntKind.i64.wrap (32 * bitZ p.w.ret 1) = 32 * bitZ p.w.ret 1 := IntWalk.i64_in _ (by omega)
 have m5 : IntKind.i64.wrap (64 * bitZ p.hp 1) = 64 * bitZ p.hp 1 := IntWalk.i64_in _ (by omega)
 have m6 : IntKind.i64.wrap (128 * bitZ p.hu 1) = 128 * bitZ p.hu 1 := IntWalk.i64_in _ (by omega)
 have n1 : IntKind.i64.wrap (2 * bitZ p.clean 1 + 4 * bitZ p.w.has 1) = 2 * bitZ p.clean 1 + 4 * bitZ p.w.has 1 := IntWalk.i64_in _ (by omega)
 have n2 : IntKind.i64.wrap (2 * bitZ p.clean 1 + 4 * bitZ p.w.has 1 + 8 * p.w.q) = 2 * bitZ p.clean 1 + 4 * bitZ p.w.has 1 + 8 * p.w.q := IntWalk.i64_in _ (by omega)
 have n3 : IntKind.i64.wrap (2 * bitZ p.clean 1 + 4 * bitZ p.w.has 1 + 8 * p.w.q + 32 * bitZ p.w.ret 1) = 2 * bitZ p.clean 1 + 4 * bitZ p.w.has 1 + 8 * p.w.q + 32 * bitZ p.w.ret 1 := IntWalk.i64_in _ (by omega)
 have n4 : IntKind.i64.wrap (2 * bitZ p.clean 1 + 4 * bitZ p.w.has 1 + 8 * p.w.q + 32 * bitZ p.w.ret 1 + 64 * bitZ p.hp 1) = 2 * bitZ p.clean 1 + 4 * bitZ p.w.has 1 + 8 * p.w.q + 32 * bitZ p.w.ret 1 + 64 * bitZ p.hp 1 := IntWalk.i64_in _ (by omega)
 have n5 : IntKind.i64.wrap (2 * bitZ p.clean 1 + 4 * bitZ p.w.has 1 + 8 * p.w.q + 32 * bitZ p.w.ret 1 + 64 * bitZ p.hp 1 + 128 * bitZ p.hu 1) = z := by rw [← hle]; exact IntWalk.i64_in _ (by omega)
 have HP := Lib.hid (fun (W : World) (h : KP w w.heap.size p a W) => PropBytes_ok p.kind p.ps a.pa a.pc P W hps h.at.ps hPP)
 have HS := Lib.hid hS
 have e1 : (p.kind == 1) = true := beq_iff_eq.2 (by omega)
 have HH := Lib.hid hh
 have HU := Lib.hid hu
 have HPP := Lib.hid hp
 clear hS hh hu hp hle hz hOZ hO5 hF hLM hLC hPP hLP hps hkp hcl hlr r1 r2 r3 r4 r5 hk hq0 hq1 hpz
 have HK0 := Keep.new w 30 (pkArr p a)
 obtain ⟨W1, hW⟩ : ∃ W1, w.alloc (.cells (pkArr p a) 30) = W1 := ⟨_, rfl⟩
 rw [hW] at HK0
 unfold pkArr at hW ⊢
 have HW := Lib.hid hW
 clear hW
 go_enter Tryz.func39, Tryz.ntmps39
 go_upto_region 2 with fail
 rw [HW.out]
 generalize Value.agg _ = v0
 obtain ⟨g, hg⟩ : ∃ g, w.heap.size = g := ⟨_, rfl⟩
 rw [hg] at HK0 ⊢
 have HK := Lib.hid (KP.new HK0 H.out)
 clear HW HK0 H
 rw [hg] at HP
 have HG := Lib.hid hg
 clear hg
 have c0 := HK.out.k.f0
 have c14 := HK.out.k.f14
 have c15 := HK.out.k.f15
 have c16 := HK.out.k.f16
 have c17 := HK.out.k.f17
 have c18 := HK.out.k.f18
 have c19 := HK.out.k.f19
 have hk2 := HK.out.alloc (.cells (wlArr p.w a.wa a.wc) 28)
 have hb2 := Box.new W1 28 (wlArr p.w a.wa a.wc)
 obtain ⟨W2, h2⟩ : ∃ W2, W1.alloc (.cells (wlArr p.w a.wa a.wc) 28) = W2 := ⟨_, rfl⟩
 rw [h2] at hk2 hb2
 unfold wlArr at h2
 have H2 := Lib.hid h2
 clear h2
 go_upto_region 5 with fail
 rw [H2.out]
 obtain ⟨h, hhh⟩ : ∃ h, W1.heap.size = h := ⟨_, rfl⟩
 rw [hhh] at hb2 ⊢
 have st0 := KQ.mk hk2 hb2
 clear hk2 hb2 H2 HK c0 c14 c15 c16 c17 c18 c19 hhh
 haveI : Nonempty (In (KQ w g p a h (wlArr p.w a.wa a.wc))) := ⟨⟨_, st0⟩⟩
 have k11 := fun u : In (KQ w g p a h (wlArr p.w a.wa a.wc)) => u.h.k.f11
 have k12 := fun u : In (KQ w g p a h (wlArr p.w a.wa a.wc)) => u.h.k.f12
 have k13 := fun u : In (KQ w g p a h (wlArr p.w a.wa a.wc)) => u.h.k.f13
 have k20 := fun u : In (KQ w g p a h (wlArr p.w a.wa a.wc)) => u.h.k.f20
 have k22 := fun u : In (KQ w g p a h (wlArr p.w a.wa a.wc)) => u.h.k.f22
 have k24 := fun u : In (KQ w g p a h (wlArr p.w a.wa a.wc)) => u.h.k.f24
 have j0 := fun u : In (KQ w g p a h (wlArr p.w a.wa a.wc)) => u.h.w0
 have j1 := fun u : In (KQ w g p a h (wlArr p.w a.wa a.wc)) => u.h.w1
 have j2 := fun u : In (KQ w g p a h (wlArr p.w a.wa a.wc)) => u.h.w2
 refine region_in (S := KQ w g p a h (wlArr p.w a.wa a.wc)) (by kernel_rfl) (by kernel_rfl) (st0.drewN 1) ?_
 repeat (go_big_quiet_step (first | (go_at_call 77; exact in_call ((rbit_is _ _ _ rfl).mono fun _ _ h => ⟨h.1, by rw [← h.2]; exact In.h _⟩)) | (go_at_call 76; exact in_call ((HLM.out _).mono fun _ _ h => ⟨h.1, KQ.below (In.h _) h.2⟩)) | (go_at_call 76; exact in_call ((HLC.out _).mono fun _ _ h => ⟨h.1, KQ.below (In.h _) h.2⟩)) | (go_at_call 40; exact in_call ((HO5.out _).mono fun _ _ h => ⟨h.1, KQ.below (In.h _) h.2⟩)) | (go_at_call 40; exact in_call ((HOZ.out _).mono fun _ _ h => ⟨h.1, KQ.below (In.h _) h.2⟩)) | (go_at_call 78; exact in_call ((HF.out _).mono fun _ _ h => ⟨h.1, KQ.below (In.h _) h.2⟩)) | (go_at_call 79; exact in_call ((HP.out _ (KQ.out (In.h _)).1).mono fun _ _ h => ⟨h.1, KQ.below (In.h _) h.2⟩))))
 refine wpQuiet_nil ?_
 rintro _ ⟨⟨w2, st2⟩, rfl⟩
 clear this st0 k11 k12 k13 k20 k22 k24 j0 j1 j2 m1 m2 m3 m4 m5 m6 n1 n2 n3 n4 n5 HLM HLC HF HO5 HOZ HP
 have v0 := st2.w0
 rw [HH.out] at v0
 have c20 := st2.k.f20
 rw [HU.out] at c20
 have c22 := st2.k.f22
 rw [HPP.out] at c22
 have c23 := st2.k.f23
 go_wp2_with (first | (go_at_call 76; refine (HLP.out _).mono ?_; rintro e w5 ⟨rfl, hb5⟩; have st5 := st2.below hb5; clear hb5))
 go_ret
 exact ⟨by rw [← HS.out]; rfl, st5.out.1.b⟩
theorem rest_1010 (p : Pk) (a : Ad) (S : ByteArray) (w : World) (h : PkAt w w.heap.size p a) (hk : p.kind = 1) (hq0 : 0 ≤ p.w.q) (hq1 : p.w.q ≤ 2) (hkp : 0 ≤ p.keep ∧ p.keep < 65536) (hps : propsB p.kind p.ps = true) (hcl : p.cl.size ≤ 1024) (hh : p.w.has = false) (hu : p.hu = true) (huz : p.u.size ≤ 1024) (hp : p.hp = false) (hS : ((((((lgStr mqtt ++ strOfNums [5]) ++ strOfNums [loginZ p]) ++ fxStr p.keep) ++ propStr p.ps) ++ lgStr p.cl) ++ lgStr p.u) = S) :
  Calls Tryz.prog 39 #[.agg (pkArr p a)] w fun e w' => e = .returned (.string S) ∧ Below w.heap.size w w' := by
 have H := Lib.hid h
 clear h
 obtain ⟨P, hPP⟩ : ∃ P, propStr p.ps = P := ⟨_, rfl⟩
 have hPz : P.size ≤ 16428 := by rw [← hPP]; exact propStr_size hps
 obtain ⟨LM, hLM⟩ : ∃ T, lgStr mqtt = T := ⟨_, rfl⟩
 have zLM : LM.size ≤ 1026 := by rw [← hLM, lgStr_size]; decide
 have HLM := Lib.hid (fun W => long_is mqtt LM W (by decide) hLM)
 obtain ⟨LC, hLC⟩ : ∃ T, lgStr p.cl = T := ⟨_, rfl⟩
 have zLC : LC.size ≤ 1026 := by rw [← hLC, lgStr_size]; omega
 have HLC := Lib.hid (fun W => long_is p.cl LC W (by omega) hLC)
 obtain ⟨LU, hLU⟩ : ∃ T, lgStr p.u = T := ⟨_, rfl⟩
 have zLU : LU.size ≤ 1026 := by rw [← hLU, lgStr_size]; omega
 have HLU := Lib.hid (fun W => long_is p.u LU W (by omega) hLU)
 obtain ⟨F, hF⟩ : ∃ F, fxStr p.keep = F := ⟨_, rfl⟩
 have hFz : F.size ≤ 2 := by rw [← hF, fxStr_size]; omega
 have HF := Lib.hid (fun W => RFixed_z2 p.keep F W hkp.1 hkp.2 hF)
 obtain ⟨O5, hO5⟩ : ∃ O, strOfNums [5] = O := ⟨_, rfl⟩
 have zO5 : O5.size ≤ 1 := by rw [← hO5, strOfNums_size]; simp
 have HO5 := Lib.hid (fun W => one_is 5 O5 W (by decide) (by decide) hO5)
 have hlr := login_range hq0 hq1
 have hle := login_eq p
 obtain ⟨z, hz⟩ : ∃ z, loginZ p = z := ⟨_, rfl⟩
 rw [hz] at hlr hS hle
 obtain ⟨OZ, hOZ⟩ : ∃ O, strOfNums [z] = O := ⟨_, rfl⟩
 have zOZ : OZ.size ≤ 1 := by rw [← hOZ, strOfNums_size]; simp
 have HOZ := Lib.hid (fun W => one_is z OZ W hlr.1 hlr.2 hOZ)
 rw [hO5, hOZ, hF, hLM, hLC, hPP, hLU] at hS
 have r1 := bit_range p.clean (n := 1) (by omega)
 have r2 := bit_range p.w.has (n := 1) (by omega)
 have r3 := bit_range p.w.ret (n := 1) (by omega)
 have r4 := bit_range p.hp (n := 1) (by omega)
 have r5 := bit_range p.hu (n := 1) (by omega)
 have m1 : IntKind.i64.wrap (2 * bitZ p.clean 1) = 2 * bitZ p.clean 1 := IntWalk.i64_in _ (by omega)
 have m2 : IntKind.i64.wrap (4 * bitZ p.w.has 1) = 4 * bitZ p.w.has 1 := IntWalk.i64_in _ (by omega)
 have m3 : IntKind.i64.wrap (8 * p.w.q) = 8 * p.w.q := IntWalk.i64_in _ (by omega)
 have m4 : IntKind.i64.wrap (32 * bitZ p.w.ret 1) = 32 * bitZ p.w.ret 1 := IntWalk.i64_in _ (by omega)
 have m5 : IntKind.i64.wrap (64 * bitZ p.hp 1) = 64 * bitZ p.hp 1 := IntWalk.i64_in _ (by omega)
 have m6 : IntKind.i64.wrap (128 * bitZ p.hu 1) = 128 * bitZ p.hu 1 := IntWalk.i64_in _ (by omega)
 have n1 : IntKind.i64.wrap (2 * bitZ p.clean 1 + 4 * bitZ p.w.has 1) = 2 * bitZ p.clean 1 + 4 * bitZ p.w.has 1 := IntWalk.i64_in _ (by omega)
 have n2 : IntKind.i64.wrap (2 * bitZ p.clean 1 + 4 * bitZ p.w.has 1 + 8 * p.w.q) = 2 * bitZ p.clean 1 + 4 * bitZ p.w.has 1 + 8 * p.w.q := IntWalk.i64_in _ (by omega)
 have n3 : IntKind.i64.wrap (2 * bitZ p.clean 1 + 4 * bitZ p.w.has 1 + 8 * p.w.q + 32 * bitZ p.w.ret 1) = 2 * bitZ p.clean 1 + 4 * bitZ p.w.has 1 + 8 * p.w.q + 32 * bitZ p.w.ret 1 := IntWalk.i64_in _ (by omega)
 have n4 : IntKind.i64.wrap (2 * bitZ p.clean 1 + 4 * bitZ p.w.has 1 + 8 * p.w.q + 32 * bitZ p.w.ret 1 + 64 * bitZ p.hp 1) = 2 * bitZ p.clean 1 + 4 * bitZ p.w.has 1 + 8 * p.w.q + 32 * bitZ p.w.ret 1 + 64 * bitZ p.hp 1 := IntWalk.i64_in _ (by omega)
 have n5 : IntKind.i64.wrap (2 * bitZ p.clean 1 + 4 * bitZ p.w.has 1 + 8 * p.w.q + 32 * bitZ p.w.ret 1 + 64 * bitZ p.hp 1 + 128 * bitZ p.hu 1) = z := by rw [← hle]; exact IntWalk.i64_in _ (by omega)
 have HP := Lib.hid (fun (W : World) (h : KP w w.heap.size p a W) => PropBytes_ok p.kind p.ps a.pa a.pc P W hps h.at.ps hPP)
 have HS := Lib.hid hS
 have e1 : (p.kind == 1) = true := beq_iff_eq.2 (by omega)
 have HH := Lib.hid hh
 have HU := Lib.hid hu
 have HPP := Lib.hid hp
 clear hS hh hu hp hle hz hOZ hO5 hF hLM hLC hPP hLU hps hkp hcl hlr r1 r2 r3 r4 r5 hk hq0 hq1 huz
 have HK0 := Keep.new w 30 (pkArr p a)
 obtain ⟨W1, hW⟩ : ∃ W1, w.alloc (.cells (pkArr p a) 30) = W1 := ⟨_, rfl⟩
 rw [hW] at HK0
 unfold pkArr at hW ⊢
 have HW := Lib.hid hW
 clear hW
 go_enter Tryz.func39, Tryz.ntmps39
 go_upto_region 2 with fail
 rw [HW.out]
 generalize Value.agg _ = v0
 obtain ⟨g, hg⟩ : ∃ g, w.heap.size = g := ⟨_, rfl⟩
 rw [hg] at HK0 ⊢
 have HK := Lib.hid (KP.new HK0 H.out)
 clear HW HK0 H
 rw [hg] at HP
 have HG := Lib.hid hg
 clear hg
 have c0 := HK.out.k.f0
 have c14 := HK.out.k.f14
 have c15 := HK.out.k.f15
 have c16 := HK.out.k.f16
 have c17 := HK.out.k.f17
 have c18 := HK.out.k.f18
 have c19 := HK.out.k.f19
 have hk2 := HK.out.alloc (.cells (wlArr p.w a.wa a.wc) 28)
 have hb2 := Box.new W1 28 (wlArr p.w a.wa a.wc)
 obtain ⟨W2, h2⟩ : ∃ W2, W1.alloc (.cells (wlArr p.w a.wa a.wc) 28) = W2 := ⟨_, rfl⟩
 rw [h2] at hk2 hb2
 unfold wlArr at h2
 have H2 := Lib.hid h2
 clear h2
 go_upto_region 5 with fail
 rw [H2.out]
 obtain ⟨h, hhh⟩ : ∃ h, W1.heap.size = h := ⟨_, rfl⟩
 rw [hhh] at hb2 ⊢
 have st0 := KQ.mk hk2 hb2
 clear hk2 hb2 H2 HK c0 c14 c15 c16 c17 c18 c19 hhh
 haveI : Nonempty (In (KQ w g p a h (wlArr p.w a.wa a.wc))) := ⟨⟨_, st0⟩⟩
 have k11 := fun u : In (KQ w g p a h (wlArr p.w a.wa a.wc)) => u.h.k.f11
 have k12 := fun u : In (KQ w g p a h (wlArr p.w a.wa a.wc)) => u.h.k.f12
 have k13 := fun u : In (KQ w g p a h (wlArr p.w a.wa a.wc)) => u.h.k.f13
 have k20 := fun u : In (KQ w g p a h (wlArr p.w a.wa a.wc)) => u.h.k.f20
 have k22 := fun u : In (KQ w g p a h (wlArr p.w a.wa a.wc)) => u.h.k.f22
 have k24 := fun u : In (KQ w g p a h (wlArr p.w a.wa a.wc)) => u.h.k.f24
 have j0 := fun u : In (KQ w g p a h (wlArr p.w a.wa a.wc)) => u.h.w0
 have j1 := fun u : In (KQ w g p a h (wlArr p.w a.wa a.wc)) => u.h.w1
 have j2 := fun u : In (KQ w g p a h (wlArr p.w a.wa a.wc)) => u.h.w2
 refine region_in (S := KQ w g p a h (wlArr p.w a.wa a.wc)) (by kernel_rfl) (by kernel_rfl) (st0.drewN 1) ?_
 repeat (go_big_quiet_step (first | (go_at_call 77; exact in_call ((rbit_is _ _ _ rfl).mono fun _ _ h => ⟨h.1, by rw [← h.2]; exact In.h _⟩)) | (go_at_call 76; exact in_call ((HLM.out _).mono fun _ _ h => ⟨h.1, KQ.below (In.h _) h.2⟩)) | (go_at_call 76; exact in_call ((HLC.out _).mono fun _ _ h => ⟨h.1, KQ.below (In.h _) h.2⟩)) | (go_at_call 40; exact in_call ((HO5.out _).mono fun _ _ h => ⟨h.1, KQ.below (In.h _) h.2⟩)) | (go_at_call 40; exact in_call ((HOZ.out _).mono fun _ _ h => ⟨h.1, KQ.below (In.h _) h.2⟩)) | (go_at_call 78; exact in_call ((HF.out _).mono fun _ _ h => ⟨h.1, KQ.below (In.h _) h.2⟩)) | (go_at_call 79; exact in_call ((HP.out _ (KQ.out (In.h _)).1).mono fun _ _ h => ⟨h.1, KQ.below (In.h _) h.2⟩))))
 refine wpQuiet_nil ?_
 rintro _ ⟨⟨w2, st2⟩, rfl⟩
 clear this st0 k11 k12 k13 k20 k22 k24 j0 j1 j2 m1 m2 m3 m4 m5 m6 n1 n2 n3 n4 n5 HLM HLC HF HO5 HOZ HP
 have v0 := st2.w0
 rw [HH.out] at v0
 have c20 := st2.k.f20
 rw [HU.out] at c20
 have c22 := st2.k.f22
 rw [HPP.out] at c22
 have c21 := st2.k.f21
 go_wp2_with (first | (go_at_call 76; refine (HLU.out _).mono ?_; rintro e w4 ⟨rfl, hb4⟩; have st4 := st2.below hb4; have d22 := st4.k.f22; rw [HPP.out] at d22; have d23 := st4.k.f23; clear hb4))
 go_ret
 exact ⟨by rw [← HS.out]; rfl, st4.out.1.b⟩
theorem rest_1011 (p : Pk) (a : Ad) (S : ByteArray) (w : World) (h : PkAt w w.heap.size p a) (hk : p.kind = 1) (hq0 : 0 ≤ p.w.q) (hq1 : p.w.q ≤ 2) (hkp : 0 ≤ p.keep ∧ p.keep < 65536) (hps : propsB p.kind p.ps = true) (hcl : p.cl.size ≤ 1024) (hh : p.w.has = false) (hu : p.hu = true) (huz : p.u.size ≤ 1024) (hp : p.hp = true) (hpz : p.pw.size ≤ 1024) (hS : (((((((lgStr mqtt ++ strOfNums [5]) ++ strOfNums [loginZ p]) ++ fxStr p.keep) ++ propStr p.ps) ++ lgStr p.cl) ++ lgStr p.u) ++ lgStr p.pw) = S) :
  Calls Tryz.prog 39 #[.agg (pkArr p a)] w fun e w' => e = .returned (.string S) ∧ Below w.heap.size w w' := by
 have H := Lib.hid h
 clear h
 obtain ⟨P, hPP⟩ : ∃ P, propStr p.ps = P := ⟨_, rfl⟩
 have hPz : P.size ≤ 16428 := by rw [← hPP]; exact propStr_size hps
 obtain ⟨LM, hLM⟩ : ∃ T, lgStr mqtt = T := ⟨_, rfl⟩
 have zLM : LM.size ≤ 1026 := by rw [← hLM, lgStr_size]; decide
 have HLM := Lib.hid (fun W => long_is mqtt LM W (by decide) hLM)
 obtain ⟨LC, hLC⟩ : ∃ T, lgStr p.cl = T := ⟨_, rfl⟩
 have zLC : LC.size ≤ 1026 := by rw [← hLC, lgStr_size]; omega
 have HLC := Lib.hid (fun W => long_is p.cl LC W (by omega) hLC)
 obtain ⟨LU, hLU⟩ : ∃ T, lgStr p.u = T := ⟨_, rfl⟩
 have zLU : LU.size ≤ 1026 := by rw [← hLU, lgStr_size]; omega
 have HLU := Lib.hid (fun W => long_is p.u LU W (by omega) hLU)
 obtain ⟨LP, hLP⟩ : ∃ T, lgStr p.pw = T := ⟨_, rfl⟩
 have zLP : LP.size ≤ 1026 := by rw [← hLP, lgStr_size]; omega
 have HLP := Lib.hid (fun W => long_is p.pw LP W (by omega) hLP)
 obtain ⟨F, hF⟩ : ∃ F, fxStr p.keep = F := ⟨_, rfl⟩
 have hFz : F.size ≤ 2 := by rw [← hF, fxStr_size]; omega
 have HF := Lib.hid (fun W => RFixed_z2 p.keep F W hkp.1 hkp.2 hF)
 obtain ⟨O5, hO5⟩ : ∃ O, strOfNums [5] = O := ⟨_, rfl⟩
 have zO5 : O5.size ≤ 1 := by rw [← hO5, strOfNums_size]; simp
 have HO5 := Lib.hid (fun W => one_is 5 O5 W (by decide) (by decide) hO5)
 have hlr := login_range hq0 hq1
 have hle := login_eq p
 obtain ⟨z, hz⟩ : ∃ z, loginZ p = z := ⟨_, rfl⟩
 rw [hz] at hlr hS hle
 obtain ⟨OZ, hOZ⟩ : ∃ O, strOfNums [z] = O := ⟨_, rfl⟩
 have zOZ : OZ.size ≤ 1 := by rw [← hOZ, strOfNums_size]; simp
 have HOZ := Lib.hid (fun W => one_is z OZ W hlr.1 hlr.2 hOZ)
 rw [hO5, hOZ, hF, hLM, hLC, hPP, hLU, hLP] at hS
 have r1 := bit_range p.clean (n := 1) (by omega)
 have r2 := bit_range p.w.has (n := 1) (by omega)
 have r3 := bit_range p.w.ret (n := 1) (by omega)
 have r4 := bit_range p.hp (n := 1) (by omega)
 have r5 := bit_range p.hu (n := 1) (by omega)
 have m1 : IntKind.i64.wrap (2 * bitZ p.clean 1) = 2 * bitZ p.clean 1 := IntWalk.i64_in _ (by omega)
 have m2 : IntKind.i64.wrap (4 * bitZ p.w.has 1) = 4 * bitZ p.w.has 1 := IntWalk.i64_in _ (by omega)
 have m3 : IntKind.i64.wrap (8 * p.w.q) = 8 * p.w.q := IntWalk.i64_in _ (by omega)
 have m4 : IntKind.i64.wrap (32 * bitZ p.w.ret 1) = 32 * bitZ p.w.ret 1 := IntWalk.i64_in _ (by omega)
 have m5 : IntKind.i64.wrap (64 * bitZ p.hp 1) = 64 * bitZ p.hp 1 := IntWalk.i64_in _ (by omega)
 have m6 : IntKind.i64.wrap (128 * bitZ p.hu 1) = 128 * bitZ p.hu 1 := IntWalk.i64_in _ (by omega)
 have n1 : IntKind.i64.wrap (2 * bitZ p.clean 1 + 4 * bitZ p.w.has 1) = 2 * bitZ p.clean 1 + 4 * bitZ p.w.has 1 := IntWalk.i64_in _ (by omega)
 have n2 : IntKind.i64.wrap (2 * bitZ p.clean 1 + 4 * bitZ p.w.has 1 + 8 * p.w.q) = 2 * bitZ p.clean 1 + 4 * bitZ p.w.has 1 + 8 * p.w.q := IntWalk.i64_in _ (by omega)
 have n3 : IntKind.i64.wrap (2 * bitZ p.clean 1 + 4 * bitZ p.w.has 1 + 8 * p.w.q + 32 * bitZ p.w.ret 1) = 2 * bitZ p.clean 1 + 4 * bitZ p.w.has 1 + 8 * p.w.q + 32 * bitZ p.w.ret 1 := IntWalk.i64_in _ (by omega)
 have n4 : IntKind.i64.wrap (2 * bitZ p.clean 1 + 4 * bitZ p.w.has 1 + 8 * p.w.q + 32 * bitZ p.w.ret 1 + 64 * bitZ p.hp 1) = 2 * bitZ p.clean 1 + 4 * bitZ p.w.has 1 + 8 * p.w.q + 32 * bitZ p.w.ret 1 + 64 * bitZ p.hp 1 := IntWalk.i64_in _ (by omega)
 have n5 : IntKind.i64.wrap (2 * bitZ p.clean 1 + 4 * bitZ p.w.has 1 + 8 * p.w.q + 32 * bitZ p.w.ret 1 + 64 * bitZ p.hp 1 + 128 * bitZ p.hu 1) = z := by rw [← hle]; exact IntWalk.i64_in _ (by omega)
 have HP := Lib.hid (fun (W : World) (h : KP w w.heap.size p a W) => PropBytes_ok p.kind p.ps a.pa a.pc P W hps h.at.ps hPP)
 have HS := Lib.hid hS
 have e1 : (p.kind == 1) = true := beq_iff_eq.2 (by omega)
 have HH := Lib.hid hh
 have HU := Lib.hid hu
 have HPP := Lib.hid hp
 clear hS hh hu hp hle hz hOZ hO5 hF hLM hLC hPP hLU hLP hps hkp hcl hlr r1 r2 r3 r4 r5 hk hq0 hq1 huz hpz
 have HK0 := Keep.new w 30 (pkArr p a)
 obtain ⟨W1, hW⟩ : ∃ W1, w.alloc (.cells (pkArr p a) 30) = W1 := ⟨_, rfl⟩
 rw [hW] at HK0
 unfold pkArr at hW ⊢
 have HW := Lib.hid hW
 clear hW
 go_enter Tryz.func39, Tryz.ntmps39
 go_upto_region 2 with fail
 rw [HW.out]
 generalize Value.agg _ = v0
 obtain ⟨g, hg⟩ : ∃ g, w.heap.size = g := ⟨_, rfl⟩
 rw [hg] at HK0 ⊢
 have HK := Lib.hid (KP.new HK0 H.out)
 clear HW HK0 H
 rw [hg] at HP
 have HG := Lib.hid hg
 clear hg
 have c0 := HK.out.k.f0
 have c14 := HK.out.k.f14
 have c15 := HK.out.k.f15
 have c16 := HK.out.k.f16
 have c17 := HK.out.k.f17
 have c18 := HK.out.k.f18
 have c19 := HK.out.k.f19
 have hk2 := HK.out.alloc (.cells (wlArr p.w a.wa a.wc) 28)
 have hb2 := Box.new W1 28 (wlArr p.w a.wa a.wc)
 obtain ⟨W2, h2⟩ : ∃ W2, W1.alloc (.cells (wlArr p.w a.wa a.wc) 28) = W2 := ⟨_, rfl⟩
 rw [h2] at hk2 hb2
 unfold wlArr at h2
 have H2 := Lib.hid h2
 clear h2
 go_upto_region 5 with fail
 rw [H2.out]
 obtain ⟨h, hhh⟩ : ∃ h, W1.heap.size = h := ⟨_, rfl⟩
 rw [hhh] at hb2 ⊢
 have st0 := KQ.mk hk2 hb2
 clear hk2 hb2 H2 HK c0 c14 c15 c16 c17 c18 c19 hhh
 haveI : Nonempty (In (KQ w g p a h (wlArr p.w a.wa a.wc))) := ⟨⟨_, st0⟩⟩
 have k11 := fun u : In (KQ w g p a h (wlArr p.w a.wa a.wc)) => u.h.k.f11
 have k12 := fun u : In (KQ w g p a h (wlArr p.w a.wa a.wc)) => u.h.k.f12
 have k13 := fun u : In (KQ w g p a h (wlArr p.w a.wa a.wc)) => u.h.k.f13
 have k20 := fun u : In (KQ w g p a h (wlArr p.w a.wa a.wc)) => u.h.k.f20
 have k22 := fun u : In (KQ w g p a h (wlArr p.w a.wa a.wc)) => u.h.k.f22
 have k24 := fun u : In (KQ w g p a h (wlArr p.w a.wa a.wc)) => u.h.k.f24
 have j0 := fun u : In (KQ w g p a h (wlArr p.w a.wa a.wc)) => u.h.w0
 have j1 := fun u : In (KQ w g p a h (wlArr p.w a.wa a.wc)) => u.h.w1
 have j2 := fun u : In (KQ w g p a h (wlArr p.w a.wa a.wc)) => u.h.w2
 refine region_in (S := KQ w g p a h (wlArr p.w a.wa a.wc)) (by kernel_rfl) (by kernel_rfl) (st0.drewN 1) ?_
 repeat (go_big_quiet_step (first | (go_at_call 77; exact in_call ((rbit_is _ _ _ rfl).mono fun _ _ h => ⟨h.1, by rw [← h.2]; exact In.h _⟩)) | (go_at_call 76; exact in_call ((HLM.out _).mono fun _ _ h => ⟨h.1, KQ.below (In.h _) h.2⟩)) | (go_at_call 76; exact in_call ((HLC.out _).mono fun _ _ h => ⟨h.1, KQ.below (In.h _) h.2⟩)) | (go_at_call 40; exact in_call ((HO5.out _).mono fun _ _ h => ⟨h.1, KQ.below (In.h _) h.2⟩)) | (go_at_call 40; exact in_call ((HOZ.out _).mono fun _ _ h => ⟨h.1, KQ.below (In.h _) h.2⟩)) | (go_at_call 78; exact in_call ((HF.out _).mono fun _ _ h => ⟨h.1, KQ.below (In.h _) h.2⟩)) | (go_at_call 79; exact in_call ((HP.out _ (KQ.out (In.h _)).1).mono fun _ _ h => ⟨h.1, KQ.below (In.h _) h.2⟩))))
 refine wpQuiet_nil ?_
 rintro _ ⟨⟨w2, st2⟩, rfl⟩
 clear this st0 k11 k12 k13 k20 k22 k24 j0 j1 j2 m1 m2 m3 m4 m5 m6 n1 n2 n3 n4 n5 HLM HLC HF HO5 HOZ HP
 have v0 := st2.w0
 rw [HH.out] at v0
 have c20 := st2.k.f20
 rw [HU.out] at c20
 have c22 := st2.k.f22
 rw [HPP.out] at c22
 have c21 := st2.k.f21
 go_wp2_with (first | (go_at_call 76; refine (HLU.out _).mono ?_; rintro e w4 ⟨rfl, hb4⟩; have st4 := st2.below hb4; have d22 := st4.k.f22; rw [HPP.out] at d22; have d23 := st4.k.f23; clear hb4) | (go_at_call 76; refine (HLP.out _).mono ?_; rintro e w5 ⟨rfl, hb5⟩; have st5 := st4.below hb5; clear hb5))
 go_ret
 exact ⟨by rw [← HS.out]; rfl, st5.out.1.b⟩
end Go.Proofs.YtdbbcfohjkgdcaaGreat
