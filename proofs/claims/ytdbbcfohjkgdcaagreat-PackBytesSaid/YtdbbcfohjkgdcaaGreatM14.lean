/- Package pack: the parts of a packet: a reason and properties, codes, filters. -/
import Derived.Test.YtdbbcfohjkgdcaaGreatM00
import Derived.Test.YtdbbcfohjkgdcaaGreatM13
set_option maxRecDepth 100000
set_option maxHeartbeats 64000000
namespace Go.Proofs.YtdbbcfohjkgdcaaGreat
open Go.RowKit Go.Lib Prp Pkt Vbi Txt
def Row (W : World) (B : Nat) (A : Option Addr) (vs : List Value) : Prop := vs = [] ∨ ∃ a, A = some a ∧ a.block < B ∧ ∀ j (h : j < vs.length), W.cell? (a.add j) = some vs[j]
def PartsAt (W : World) (B C : Nat) (A : Option Addr) (l : List Part) : Prop := ∃ vs : List Value, vs.length = l.length ∧ Row W B A vs ∧ ∀ j (h : j < vs.length) (h2 : j < l.length), PV W C vs[j] l[j]
section
variable {W W' : World} {B B' C : Nat} {A : Option Addr} {vs : List Value} {l : List Part}
theorem Row.some_ (h : Row W B A vs) (hl : 0 < vs.length) : ∃ a, A = some a ∧ a.block < B ∧ ∀ j (h : j < vs.length), W.cell? (a.add j) = some vs[j] := by
 rcases h with rfl | h
 ·simp at hl
 ·exact h
theorem Row.below (h : Row W B A vs) (hb : Below B W W') : Row W' B A vs := by
 rcases h with h | ⟨a, h1, h2, h3⟩
 ·exact .inl h
 ·exact .inr ⟨a, h1, h2, fun j hj => by rw [hb.cell (p := a.add j) (by rw [add_block]; exact h2)]; exact h3 j hj⟩
theorem Row.mono (h : Row W B A vs) (hB : B ≤ B') : Row W B' A vs := by
 rcases h with h | ⟨a, h1, h2, h3⟩
 ·exact .inl h
 ·exact .inr ⟨a, h1, Nat.lt_of_lt_of_le h2 hB, h3⟩
theorem PartsAt.below (h : PartsAt W B C A l) (hC : C ≤ B) (hb : Below B W W') : PartsAt W' B C A l := by
 obtain ⟨vs, h1, h2, h3⟩ := h
 exact ⟨vs, h1, h2.below hb, fun j x y => (h3 j x y).below (hb.mono hC)⟩
theorem PartsAt.mono (h : PartsAt W B C A l) (hB : B ≤ B') : PartsAt W B' C A l := by
 obtain ⟨vs, h1, h2, h3⟩ := h
 exact ⟨vs, h1, h2.mono hB, h3⟩
theorem PartsAt.weak {C' : Nat} (h : PartsAt W B C' A l) (hC : C' ≤ C) (hB : B ≤ B') : PartsAt W B' C A l := by
 obtain ⟨vs, h1, h2, h3⟩ := h
 exact ⟨vs, h1, h2.mono hB, fun j x y => (h3 j x y).mono hC⟩
theorem PartsAt.at (h : PartsAt W B C A l) (k : Nat) (hk : k < l.length) : ∃ a v, A = some a ∧ a.block < B ∧ W.cell? (a.add k) = some v ∧ PV W C v l[k] := by
 obtain ⟨vs, h1, h2, h3⟩ := h
 obtain ⟨a, hA, hb, hc⟩ := h2.some_ (by omega)
 exact ⟨a, vs[k]'(by omega), hA, hb, hc k (by omega), h3 k (by omega) hk⟩
end
theorem ok_step {l : List Part} {k : Nat} (hk : k < l.length) : allOk (l.drop k) = (l[k].okB && allOk (l.drop (k + 1))) := by rw [List.drop_eq_getElem_cons hk]; rfl
theorem str_step {l : List Part} {k : Nat} (hk : k < l.length) : allStr (l.take (k + 1)) = allStr (l.take k) ++ l[k].str := by rw [List.take_succ_eq_append_getElem hk, allStr_snoc]
def Short (x : Part) : Prop := ∀ s, x = .raw s → s.size ≤ 1024
theorem part_size {x : Part} (h : x.okB = true) (hr : Short x) : x.str.size ≤ 16428 := by
 cases x with
 | octet n => show (strOfNums [n]).size ≤ _; rw [strOfNums_size]; simp
 | short n => show (fxStr n).size ≤ _; rw [fxStr_size]; omega
 | number n => show (fxStr n).size ≤ _; rw [fxStr_size]; omega
 | words s => show (lgStr s).size ≤ _; rw [lgStr_size]; have := text_size (s := s) h; omega
 | sized s => show (lgStr s).size ≤ _; rw [lgStr_size]; have : s.size ≤ 1024 := of_decide_eq_true h; omega
 | props k l => exact propStr_size (place := k) h
 | raw s => show s.size ≤ _; have := hr s rfl; omega
@[irreducible] def PSt (w : World) (A : Option Addr) (l : List Part) (b : Nat) (S : ByteArray) (W : World) : Prop := Built w.heap.size b S W ∧ PartsAt W w.heap.size w.heap.size A l ∧ Below w.heap.size w W
section
variable {w W W' : World} {A : Option Addr} {l : List Part} {b : Nat} {S T : ByteArray}
theorem PSt.mk (h1 : Built w.heap.size b S W) (h2 : PartsAt W w.heap.size w.heap.size A l) (h3 : Below w.heap.size w W) : PSt w A l b S W := by unfold PSt; exact ⟨h1, h2, h3⟩
theorem PSt.out (h : PSt w A l b S W) : Built w.heap.size b S W ∧ PartsAt W w.heap.size w.heap.size A l ∧ Below w.heap.size w W := by unfold PSt at h; exact h
theorem PSt.below (h : PSt w A l b S W) (hb : Below W.heap.size W W') : PSt w A l b S W' :=
 .mk (h.out.1.below hb) (h.out.2.1.below (Nat.le_refl _) (hb.mono h.out.2.2.size)) (h.out.2.2.trans (hb.mono h.out.2.2.size))
theorem PSt.write (h : PSt w A l b S W) (h1 : Built w.heap.size b T W') (hb : Below w.heap.size W W') : PSt w A l b T W' := .mk h1 (h.out.2.1.below (Nat.le_refl _) hb) (h.out.2.2.trans hb)
end
def GivesAllStr (l : List Part) (w : World) (e : Ending) (w' : World) : Prop := ∃ (S : ByteArray) (E : Int), e = .returned (.tuple #[.string S, .int .i64 E]) ∧ (allOk l = true → S = allStr l ∧ E = 0) ∧ (allOk l = false → E ≠ 0) ∧ Below w.heap.size w w'
theorem putAll_is (l : List Part) (A : Option Addr) (c : Nat) (w : World) (hm : l.length ≤ 64) (hr : ∀ x ∈ l, Short x) (h : PartsAt w w.heap.size w.heap.size A l) :
  Calls Tryz.prog 30 #[.slice A l.length c] w (GivesAllStr l w) := by
 have H := Lib.hid h
 have HR := Lib.hid hr
 clear h hr
 go_enter Tryz.func30, Tryz.ntmps30
 go_wp2_with fail
 have HB := Lib.hid (PSt.mk (w := w) (A := A) (l := l) (built_new w) (H.out.below (Nat.le_refl _) ((Below.refl _ _).alloc (Nat.le_refl _) _)) ((Below.refl _ _).alloc (Nat.le_refl _) _))
 obtain ⟨b, hb⟩ : ∃ b, w.heap.size = b := ⟨_, rfl⟩
 have hBb : PSt w A l b ⟨#[]⟩ (w.alloc (.cells #[.pointer none, .slice none 0 0] 103)) := by rw [← hb]; exact HB.out
 rw [hb]
 have HB0 := Lib.hid hBb
 clear hb hBb HB H
 go_loopw [11] (fun i wr => ∃ k : Nat, k ≤ l.length ∧ i = .int .i64 (k : Int) ∧ PSt w A l b (allStr (l.take k)) wr ∧ allOk l = allOk (l.drop k) ∧ (allStr (l.take k)).size ≤ 16428 * k) (fun i _ => l.length - (RowKit.intOf i).toNat)
 case atStart => exact ⟨0, Nat.zero_le _, rfl, HB0.out, by rw [List.drop_zero], by rw [List.take_zero]; decide⟩
 case round =>
  obtain ⟨k, hk, rfl, hst, hok, hsz⟩ := hrel
  have HT := Lib.hid hst
  have HO := Lib.hid hok
  have HZ := Lib.hid hsz
  clear hst hok hsz HB0
  by_cases hlt : k < l.length
  ·have HS := Lib.hid (str_step hlt)
   have HN := Lib.hid (HO.out.trans (ok_step hlt))
   have hsh := HR.out _ (List.getElem_mem hlt)
   obtain ⟨a, v, hA, hab, hc, hpv⟩ := HT.out.out.2.1.at k hlt
   obtain ⟨x, hx⟩ : ∃ x, l[k] = x := ⟨_, rfl⟩
   rw [hx] at HS HN hsh hpv
   obtain ⟨T, hT⟩ : ∃ T, allStr (l.take k) = T := ⟨_, rfl⟩
   rw [hT] at HT HS HZ
   have hkI : (k : Int) < (l.length : Int) := by omega
   have HA := Lib.hid hA
   have HPV := Lib.hid (hpv.mono HT.out.out.2.2.size)
   have hTz : T.size ≤ 1051392 := by have := HZ.out; omega
   clear hx hT hab hpv hA HO
   rw [HA.out]
   cases hb : x.okB with
   | false =>
    have HF : Hid (allOk l = false) := HN.out.trans (by rw [hb]; rfl)
    have HP := Lib.hid (fun (W : World) (h : PV W W.heap.size v x) => put_part_no v x W h hb)
    clear hb HN hsh
    go_wp2_with (go_at_call 63; refine (HP.out _ HPV.out).mono ?_; rintro e w1 ⟨S, E, rfl, hE, hb1⟩; have HE := Lib.hid hE; have hEb := ne_true hE; clear hE)
    go_ret2
    exact ⟨_, E, rfl, (fun h => by rw [HF.out] at h; cases h), fun _ => HE.out, (HT.out.below hb1).out.2.2⟩
   | true =>
    obtain ⟨U, hU⟩ : ∃ U, x.str = U := ⟨_, rfl⟩
    have hUz : U.size ≤ 16428 := by rw [← hU]; exact part_size hb hsh
    have HP := Lib.hid (fun (W : World) (h : PV W W.heap.size v x) => put_part_yes v x U W h hb hU)
    have HN2 : Hid (allOk l = allOk (l.drop (k + 1))) := HN.out.trans (by rw [hb]; rfl)
    have HS2 : Hid (allStr (l.take (k + 1)) = T ++ U) := by rw [← hU]; exact HS.out
    clear hb hU HN HS hsh
    go_wp2_with (first | (go_at_call 63; refine (HP.out _ HPV.out).mono ?_; rintro e w1 ⟨rfl, hb1⟩; have HT1 := Lib.hid (HT.out.below hb1); clear hb1) | (go_at_call 64; refine (WriteString_is w.heap.size b T U _ HT1.out.out.1 (by omega) HT1.out.out.2.2.size).mono ?_; rintro e w3 ⟨⟨z, rfl⟩, hbu, hb3⟩))
    have HT3 := Lib.hid (HT1.out.write hbu hb3)
    clear hbu hb3 HT1 HP HPV
    go_roundw
    case rel => exact ⟨k + 1, hlt, by go_num, by rw [HS2.out]; have ht := HT3.out; rw [HA.out] at ht; exact ht, HN2.out, by rw [HS2.out, ByteArray.size_append]; have := HZ.out; omega⟩
    case measure => simp [RowKit.intOf]; omega
  ·obtain rfl : k = l.length := by omega
   have HF : Hid (allOk l = true) := by show _ = _; rw [HO.out, List.drop_length]; rfl
   rw [List.take_length] at HT HZ
   obtain ⟨T, hT⟩ : ∃ T, allStr l = T := ⟨_, rfl⟩
   have HTT := Lib.hid hT
   rw [hT] at HT HZ
   clear hT HO HZ
   go_wp2_with (go_at_call 65; refine (String_is w.heap.size b T _ HT.out.out.1 HT.out.out.2.2.size).mono ?_; rintro e w5 ⟨rfl, hb5⟩)
   go_ret2
   exact ⟨_, _, rfl, fun _ => ⟨HTT.out.symm, rfl⟩, (fun h => by rw [HF.out] at h; cases h), HT.out.out.2.2.trans hb5⟩
open Go.RowKit Go.Lib Prp Pkt Vbi Txt
def GivesParts (l : List Part) (C : Nat) (w : World) (e : Ending) (w' : World) : Prop := ∃ A c, e = .returned (.slice A l.length c) ∧ (A = none → c = 0) ∧ PartsAt w' w'.heap.size C A l ∧ Below w.heap.size w w'
def OwnParts (W : World) (base C : Nat) (v : Value) (l : List Part) : Prop := ∃ vs : List Value, vs.length = l.length ∧ W.ownsRow base 20 1 v l.length vs ∧ ∀ j (_ : j < vs.length) (_ : j < l.length), PV W C vs[j] l[j]
theorem info_any : (Tryz.prog.info? 20).map (fun i => (i.zero, i.size, i.bytes)) = some (some .nilIface, 1, 16) := by kernel_rfl
section
variable {W W' : World} {base C B : Nat} {v : Value} {l : List Part}
theorem row_own {w : World} {base e : Nat} {v : Value} {n : Nat} {vs : List Value} (h : w.ownsRow base e 1 v n vs) (hn : vs.length = n) : ∃ A c, v = .slice A n c ∧ (A = none → c = 0) ∧ Row w w.heap.size A vs := by
 rcases h.2 with ⟨hv, h0⟩ | ⟨g, cap, cur, hv, _, hg, _⟩
 ·exact ⟨none, 0, by rw [hv, h0], fun _ => rfl, .inl (List.eq_nil_of_length_eq_zero (by omega))⟩
 ·refine ⟨_, cap, hv, (fun h => by cases h), .inr ⟨_, rfl, (Array.getElem?_eq_some_iff.1 hg).1, fun j hj => ?_⟩⟩
  exact h.cells (by rw [hv]; rfl) j _ (List.getElem?_eq_getElem hj)
theorem OwnParts.nil (W : World) (base C : Nat) : OwnParts W base C (.slice none 0 0) [] := ⟨[], rfl, World.ownsRow_nil _ _ _ _, fun j h => by simp at h⟩
theorem OwnParts.below (h : OwnParts W base C v l) (hC : C ≤ W.heap.size) (hb : Below W.heap.size W W') : OwnParts W' base C v l := by
 obtain ⟨vs, h1, h2, h3⟩ := h
 exact ⟨vs, h1, own_below h2 hb, fun j x y => (h3 j x y).below (hb.mono hC)⟩
theorem OwnParts.gives {w : World} (h : OwnParts W base C v l) (hb : Below w.heap.size w W) : GivesParts l C w (.returned v) W := by
 obtain ⟨vs, h1, h2, h3⟩ := h
 obtain ⟨A, c, rfl, hc, hr⟩ := row_own h2 h1
 exact ⟨A, c, rfl, hc, ⟨vs, h1, hr, h3⟩, hb⟩
theorem lit_row (w : World) (vs : List Value) (T : TypeId) : Row (w.alloc (.cells vs.toArray T)) (w.heap.size + 1) (some ⟨w.heap.size, 0, none⟩) vs := by
 refine .inr ⟨_, rfl, by simp, fun j hj => ?_⟩
 rw [add_new, cell_of_row (w.alloc _) w.heap.size j _ _ (0, 0) (heap_alloc_new w _)]
 simp
theorem lit_parts (w : World) (C : Nat) (vs : List Value) (l : List Part) (n : Nat) (T : TypeId) (hC : C ≤ w.heap.size) (hn : n = l.length) (hl : vs.length = l.length) (h : ∀ j (_ : j < vs.length) (_ : j < l.length), PV w C vs[j] l[j]) :
  ∃ A c, Value.slice (some ⟨w.heap.size, 0, none⟩) n n = .slice A l.length c ∧ (A = none → c = 0) ∧ PartsAt (w.alloc (.cells vs.toArray T)) (w.alloc (.cells vs.toArray T)).heap.size C A l := by
 subst hn
 refine ⟨_, _, rfl, (fun h => by cases h), vs, hl, (lit_row w vs T).mono (by simp), fun j x y => (h j x y).below ((Below.refl _ _).alloc hC _)⟩
end
theorem own_add {W : World} {base C : Nat} {v' : Value} {l : List Part} {vs ws : List Value} {m : List Part} (h1 : vs.length = l.length) (h2 : ws.length = m.length) (ho : W.ownsRow base 20 1 v' (l.length + m.length) (vs ++ ws))
  (h3 : ∀ j (_ : j < vs.length) (_ : j < l.length), PV W C vs[j] l[j]) (h4 : ∀ j (_ : j < ws.length) (_ : j < m.length), PV W C ws[j] m[j]) : OwnParts W base C v' (l ++ m) := by
 refine ⟨vs ++ ws, by simp [h1, h2], by rw [List.length_append]; exact ho, fun j x y => ?_⟩
 by_cases hj : j < vs.length
 ·rw [List.getElem_append_left hj, List.getElem_append_left (by omega)]
  exact h3 j hj (by omega)
 ·rw [List.getElem_append_right (by omega), List.getElem_append_right (by omega)]
  have e : j - vs.length = j - l.length := by omega
  simp only [e]
  rw [List.length_append] at x y
  exact h4 (j - l.length) (by omega) (by omega)
theorem reasonParts_is (p : Pk) (a : Ad) (C : Nat) (w : World) (hC : C ≤ w.heap.size) (hf : PkFit p a) (h : PkAt w C p a) :
  Calls Tryz.prog 68 #[.agg (pkArr p a)] w (GivesParts (reasonL p) C w) := by
 have HC := Lib.hid hC
 have HP : Hid (PV w C (.iface 113 (.agg #[.int .i64 p.kind, .slice a.pa p.ps.length a.pc])) (.props p.kind p.ps)) := ⟨a.pa, a.pc, rfl, h.ps, hf.pl1.1, hf.pl1.2, hf.ps⟩
 clear h hf hC
 have HK0 := Keep.new w 30 (pkArr p a)
 obtain ⟨W1, hW⟩ : ∃ W1, w.alloc (.cells (pkArr p a) 30) = W1 := ⟨_, rfl⟩
 rw [hW] at HK0
 unfold pkArr at hW ⊢
 have HW := Lib.hid hW
 clear hW
 go_enter Tryz.func68, Tryz.ntmps68
 go_upto_region 1 with fail
 rw [HW.out]
 generalize Value.agg _ = v0
 obtain ⟨g, hg⟩ : ∃ g, w.heap.size = g := ⟨_, rfl⟩
 rw [hg] at HK0 ⊢
 have HK := Lib.hid HK0
 clear HW HK0
 have c0 := HK.out.f0
 have c7 := HK.out.f7
 have c24 := HK.out.f24
 by_cases hp : 0 < p.ps.length
 ·have hL : reasonL p = [.octet p.re, .props p.kind p.ps] := by unfold reasonL; rw [if_pos (List.length_pos_iff.1 hp)]
  have hpI : decide ((0 : Int) < (p.ps.length : Int)) = true := decide_eq_true (by omega)
  have HL := Lib.hid hL
  clear hL
  go_wp2_with fail
  go_ret
  obtain ⟨A, c, hv, hcc, hpa⟩ := lit_parts W1 C [.iface 110 (.int .i64 p.re), .iface 113 (.agg #[.int .i64 p.kind, .slice a.pa p.ps.length a.pc])] [.octet p.re, .props p.kind p.ps] 2 20 (Nat.le_trans HC.out HK.out.out.2.size) rfl rfl (fun j x y => by
   match j, x, y with
   | 0, _, _ => rfl
   | 1, _, _ => exact PV.below HP.out (HK.out.out.2.mono HC.out))
  rw [HL.out]
  exact ⟨A, c, congrArg Ending.returned hv, hcc, hpa, HK.out.out.2.trans ((Below.refl _ _).alloc HK.out.out.2.size _)⟩
 have h0 : p.ps = [] := List.eq_nil_of_length_eq_zero (by omega)
 have hpI : decide ((0 : Int) < (p.ps.length : Int)) = false := decide_eq_false (by omega)
 by_cases hr : p.re = 0
 ·have HL : Hid (reasonL p = []) := by show _ = _; unfold reasonL; rw [if_neg (by rw [h0]; simp), if_neg (by omega)]
  have e0 : (p.re != 0) = false := by rw [hr]; rfl
  clear hr h0
  go_wp2_with fail
  go_ret
  rw [HL.out]
  exact ⟨none, 0, rfl, fun _ => rfl, ⟨[], rfl, .inl rfl, fun j h => by simp at h⟩, HK.out.out.2⟩
 ·have HL : Hid (reasonL p = [.octet p.re]) := by show _ = _; unfold reasonL; rw [if_neg (by rw [h0]; simp), if_pos hr]
  have e0 : (p.re != 0) = true := ne_true hr
  clear hr h0
  go_wp2_with fail
  go_ret
  obtain ⟨A, c, hv, hcc, hpa⟩ := lit_parts W1 C [.iface 110 (.int .i64 p.re)] [.octet p.re] 1 20 (Nat.le_trans HC.out HK.out.out.2.size) rfl rfl (fun j x y => by
   match j, x, y with
   | 0, _, _ => rfl)
  rw [HL.out]
  exact ⟨A, c, congrArg Ending.returned hv, hcc, hpa, HK.out.out.2.trans ((Below.refl _ _).alloc HK.out.out.2.size _)⟩
end Go.Proofs.YtdbbcfohjkgdcaaGreat
