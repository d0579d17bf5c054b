/- Package pack: parts put behind parts, in a region that draws its order. -/
import Derived.Test.YtiancngpknnkaaaGreatB04
import Derived.Test.YtiancngpknnkaaaGreatB07
import Derived.Test.YtiancngpknnkaaaGreatB16
set_option maxRecDepth 100000
set_option maxHeartbeats 64000000
namespace Go.Proofs.YtiancngpknnkaaaGreat
open Go.RowKit Go.Lib Vbi Txt
open Go.RowKit Go.Lib Prp Pkt Vbi Txt
open Go.RowKit Go.Lib Prp Pkt Vbi
theorem goodL_all {place : Int} {a l : List P} (h : goodL place a l = true) : ∀ p ∈ l, kindZ p.id ≠ 0 ∧ valB (kindZ p.id) p = true := by
  induction l generalizing a with
  | nil => intro p hp; cases hp
  | cons x t ih =>
    unfold goodL at h
    rw [Bool.and_eq_true] at h
    intro p hp
    rcases List.mem_cons.1 hp with rfl | hp
    · have h1 := h.1
      unfold goodB fitsB at h1
      simp only [Bool.and_eq_true, decide_eq_true_eq] at h1
      exact ⟨h1.2.1.1, h1.2.1.2.2⟩
    · exact ih h.2 p hp
theorem props_all {place : Int} {l : List P} (h : propsB place l = true) : l.length ≤ 8 ∧ ∀ p ∈ l, kindZ p.id ≠ 0 ∧ valB (kindZ p.id) p = true := by
  unfold propsB at h
  simp only [Bool.and_eq_true, decide_eq_true_eq] at h
  exact ⟨h.2.1, goodL_all h.2.2⟩
theorem restStr_size {l : List P} (h : ∀ p ∈ l, kindZ p.id ≠ 0 ∧ valB (kindZ p.id) p = true) : (restStr l).size ≤ 2053 * l.length := by
  have key : ∀ (l : List P) (s : ByteArray), (∀ p ∈ l, kindZ p.id ≠ 0 ∧ valB (kindZ p.id) p = true) → (l.foldl (fun a p => a ++ oneStr p) s).size ≤ s.size + 2053 * l.length := by
    intro l
    induction l with
    | nil => intro s _; simp
    | cons x t ih =>
      intro s hx
      have h1 := hx x (by simp)
      have h2 := ih (s ++ oneStr x) (fun p hp => hx p (by simp [hp]))
      have h3 : (oneStr x).size ≤ 2053 := one_size x.id x.n x.s x.v h1.1 h1.2
      rw [ByteArray.size_append] at h2
      rw [List.foldl_cons, List.length_cons]
      omega
  have := key l ⟨#[]⟩ h
  have e : (⟨#[]⟩ : ByteArray).size = 0 := rfl
  rw [e] at this
  unfold restStr
  omega
theorem propStr_size {place : Int} {l : List P} (h : propsB place l = true) : (propStr l).size ≤ 16428 := by
  obtain ⟨h1, h2⟩ := props_all h
  have h3 := restStr_size h2
  unfold propStr
  rw [ByteArray.size_append, strOfNums_size, numZ_len (by omega)]
  have := (numLen_le (restStr l).size).2
  omega
theorem lgStr_size (s : ByteArray) : (lgStr s).size = 2 + s.size := by unfold lgStr; rw [ByteArray.size_append, fix2_size]
theorem fxStr_size (n : Int) : (fxStr n).size = 2 := fix2_size _
open Go.RowKit Go.Lib Prp Pkt Vbi Txt
def Row (W : World) (B : Nat) (A : Option Addr) (vs : List Value) : Prop := vs = [] ∨ ∃ a, A = some a ∧ a.block < B ∧ ∀ j (h : j < vs.length), W.cell? (a.add j) = some vs[j]
def PartsAt (W : World) (B C : Nat) (A : Option Addr) (l : List Part) : Prop := ∃ vs : List Value, vs.length = l.length ∧ Row W B A vs ∧ ∀ j (h : j < vs.length) (h2 : j < l.length), PV W C vs[j] l[j]
section
variable {W W' : World} {B B' C : Nat} {A : Option Addr} {vs : List Value} {l : List Part}
theorem Row.some_ (h : Row W B A vs) (hl : 0 < vs.length) : ∃ a, A = some a ∧ a.block < B ∧ ∀ j (h : j < vs.length), W.cell? (a.add j) = some vs[j] := by
  rcases h with rfl | h
  · simp at hl
  · exact h
theorem Row.below (h : Row W B A vs) (hb : Below B W W') : Row W' B A vs := by
  rcases h with h | ⟨a, h1, h2, h3⟩
  · exact .inl h
  · exact .inr ⟨a, h1, h2, fun j hj => by rw [hb.cell (p := a.add j) (by rw [add_block]; exact h2)]; exact h3 j hj⟩
theorem Row.mono (h : Row W B A vs) (hB : B ≤ B') : Row W B' A vs := by
  rcases h with h | ⟨a, h1, h2, h3⟩
  · exact .inl h
  · exact .inr ⟨a, h1, Nat.lt_of_lt_of_le h2 hB, h3⟩
theorem PartsAt.below (h : PartsAt W B C A l) (hC : C ≤ B) (hb : Below B W W') : PartsAt W' B C A l := by
  obtain ⟨vs, h1, h2, h3⟩ := h
  exact ⟨vs, h1, h2.below hb, fun j x y => (h3 j x y).below (hb.mono hC)⟩
theorem PartsAt.mono (h : PartsAt W B C A l) (hB : B ≤ B') : PartsAt W B' C A l := by
  obtain ⟨vs, h1, h2, h3⟩ := h
  exact ⟨vs, h1, h2.mono hB, h3⟩
theorem PartsAt.weak {C' : Nat} (h : PartsAt W B C' A l) (hC : C' ≤ C) (hB : B ≤ B') : PartsAt W B' C A l := by
  obtain ⟨vs, h1, h2, h3⟩ := h
  exact ⟨vs, h1, h2.mono hB, fun j x y => (h3 j x y).mono hC⟩
theorem PartsAt.at (h : PartsAt W B C A l) (k : Nat) (hk : k < l.length) : ∃ a v, A = some a ∧ a.block < B ∧ W.cell? (a.add k) = some v ∧ PV W C v l[k] := by
  obtain ⟨vs, h1, h2, h3⟩ := h
  obtain ⟨a, hA, hb, hc⟩ := h2.some_ (by omega)
  exact ⟨a, vs[k]'(by omega), hA, hb, hc k (by omega), h3 k (by omega) hk⟩
end
theorem ok_step {l : List Part} {k : Nat} (hk : k < l.length) : allOk (l.drop k) = (l[k].okB && allOk (l.drop (k + 1))) := by rw [List.drop_eq_getElem_cons hk]; rfl
theorem str_step {l : List Part} {k : Nat} (hk : k < l.length) : allStr (l.take (k + 1)) = allStr (l.take k) ++ l[k].str := by rw [List.take_succ_eq_append_getElem hk, allStr_snoc]
def Short (x : Part) : Prop := ∀ s, x = .raw s → s.size ≤ 1024
theorem part_size {x : Part} (h : x.okB = true) (hr : Short x) : x.str.size ≤ 16428 := by
  cases x with
  | octet n => show (strOfNums [n]).size ≤ _; rw [strOfNums_size]; simp
  | short n => show (fxStr n).size ≤ _; rw [fxStr_size]; omega
  | number n => show (fxStr n).size ≤ _; rw [fxStr_size]; omega
  | words s => show (lgStr s).size ≤ _; rw [lgStr_size]; have := text_size (s := s) h; omega
  | sized s => show (lgStr s).size ≤ _; rw [lgStr_size]; have : s.size ≤ 1024 := of_decide_eq_true h; omega
  | props k l => exact propStr_size (place := k) h
  | raw s => show s.size ≤ _; have := hr s rfl; omega
@[irreducible] def PSt (w : World) (A : Option Addr) (l : List Part) (b : Nat) (S : ByteArray) (W : World) : Prop := Built w.heap.size b S W ∧ PartsAt W w.heap.size w.heap.size A l ∧ Below w.heap.size w W
section
variable {w W W' : World} {A : Option Addr} {l : List Part} {b : Nat} {S T : ByteArray}
theorem PSt.mk (h1 : Built w.heap.size b S W) (h2 : PartsAt W w.heap.size w.heap.size A l) (h3 : Below w.heap.size w W) : PSt w A l b S W := by unfold PSt; exact ⟨h1, h2, h3⟩
theorem PSt.out (h : PSt w A l b S W) : Built w.heap.size b S W ∧ PartsAt W w.heap.size w.heap.size A l ∧ Below w.heap.size w W := by unfold PSt at h; exact h
theorem PSt.below (h : PSt w A l b S W) (hb : Below W.heap.size W W') : PSt w A l b S W' :=
  .mk (h.out.1.below hb) (h.out.2.1.below (Nat.le_refl _) (hb.mono h.out.2.2.size)) (h.out.2.2.trans (hb.mono h.out.2.2.size))
theorem PSt.write (h : PSt w A l b S W) (h1 : Built w.heap.size b T W') (hb : Below w.heap.size W W') : PSt w A l b T W' := .mk h1 (h.out.2.1.below (Nat.le_refl _) hb) (h.out.2.2.trans hb)
end
def GivesAllStr (l : List Part) (w : World) (e : Ending) (w' : World) : Prop := ∃ (S : ByteArray) (E : Int), e = .returned (.tuple #[.string S, .int .i64 E]) ∧ (allOk l = true → S = allStr l ∧ E = 0) ∧ (allOk l = false → E ≠ 0) ∧ Below w.heap.size w w'
theorem putAll_is (l : List Part) (A : Option Addr) (c : Nat) (w : World) (hm : l.length ≤ 64) (hr : ∀ x ∈ l, Short x) (h : PartsAt w w.heap.size w.heap.size A l) :
    Calls Tryz.prog 44 #[.slice A l.length c] w (GivesAllStr l w) := by
  have H := Lib.hid h
  have HR := Lib.hid hr
  clear h hr
  go_enter Tryz.func44, Tryz.ntmps44
  go_wp2_with fail
  have HB := Lib.hid (PSt.mk (w := w) (A := A) (l := l) (built_new w) (H.out.below (Nat.le_refl _) ((Below.refl _ _).alloc (Nat.le_refl _) _)) ((Below.refl _ _).alloc (Nat.le_refl _) _))
  obtain ⟨b, hb⟩ : ∃ b, w.heap.size = b := ⟨_, rfl⟩
  have hBb : PSt w A l b ⟨#[]⟩ (w.alloc (.cells #[.pointer none, .slice none 0 0] 107)) := by rw [← hb]; exact HB.out
  rw [hb]
  have HB0 := Lib.hid hBb
  clear hb hBb HB H
  go_loopw [11] (fun i wr => ∃ k : Nat, k ≤ l.length ∧ i = .int .i64 (k : Int) ∧ PSt w A l b (allStr (l.take k)) wr ∧ allOk l = allOk (l.drop k) ∧ (allStr (l.take k)).size ≤ 16428 * k) (fun i _ => l.length - (RowKit.intOf i).toNat)
  case atStart => exact ⟨0, Nat.zero_le _, rfl, HB0.out, by rw [List.drop_zero], by rw [List.take_zero]; decide⟩
  case round =>
    obtain ⟨k, hk, rfl, hst, hok, hsz⟩ := hrel
    have HT := Lib.hid hst
    have HO := Lib.hid hok
    have HZ := Lib.hid hsz
    clear hst hok hsz HB0
    by_cases hlt : k < l.length
    · have HS := Lib.hid (str_step hlt)
      have HN := Lib.hid (HO.out.trans (ok_step hlt))
      have hsh := HR.out _ (List.getElem_mem hlt)
      obtain ⟨a, v, hA, hab, hc, hpv⟩ := HT.out.out.2.1.at k hlt
      obtain ⟨x, hx⟩ : ∃ x, l[k] = x := ⟨_, rfl⟩
      rw [hx] at HS HN hsh hpv
      obtain ⟨T, hT⟩ : ∃ T, allStr (l.take k) = T := ⟨_, rfl⟩
      rw [hT] at HT HS HZ
      have hkI : (k : Int) < (l.length : Int) := by omega
      have HA := Lib.hid hA
      have HPV := Lib.hid (hpv.mono HT.out.out.2.2.size)
      have hTz : T.size ≤ 1051392 := by have := HZ.out; omega
      clear hx hT hab hpv hA HO
      rw [HA.out]
      cases hb : x.okB with
      | false =>
        have HF : Hid (allOk l = false) := HN.out.trans (by rw [hb]; rfl)
        have HP := Lib.hid (fun (W : World) (h : PV W W.heap.size v x) => put_part_no v x W h hb)
        clear hb HN hsh
        go_wp2_with (go_at_call 78; refine (HP.out _ HPV.out).mono ?_; rintro e w1 ⟨S, E, rfl, hE, hb1⟩; have HE := Lib.hid hE; have hEb := ne_true hE; clear hE)
        go_ret2
        exact ⟨_, E, rfl, (fun h => by rw [HF.out] at h; cases h), fun _ => HE.out, (HT.out.below hb1).out.2.2⟩
      | true =>
        obtain ⟨U, hU⟩ : ∃ U, x.str = U := ⟨_, rfl⟩
        have hUz : U.size ≤ 16428 := by rw [← hU]; exact part_size hb hsh
        have HP := Lib.hid (fun (W : World) (h : PV W W.heap.size v x) => put_part_yes v x U W h hb hU)
        have HN2 : Hid (allOk l = allOk (l.drop (k + 1))) := HN.out.trans (by rw [hb]; rfl)
        have HS2 : Hid (allStr (l.take (k + 1)) = T ++ U) := by rw [← hU]; exact HS.out
        clear hb hU HN HS hsh
        go_wp2_with (first | (go_at_call 78; refine (HP.out _ HPV.out).mono ?_; rintro e w1 ⟨rfl, hb1⟩; have HT1 := Lib.hid (HT.out.below hb1); clear hb1) | (go_at_call 79; refine (WriteString_is w.heap.size b T U _ HT1.out.out.1 (by omega) HT1.out.out.2.2.size).mono ?_; rintro e w3 ⟨⟨z, rfl⟩, hbu, hb3⟩))
        have HT3 := Lib.hid (HT1.out.write hbu hb3)
        clear hbu hb3 HT1 HP HPV
        go_roundw
        case rel => exact ⟨k + 1, hlt, by go_num, by rw [HS2.out]; have ht := HT3.out; rw [HA.out] at ht; exact ht, HN2.out, by rw [HS2.out, ByteArray.size_append]; have := HZ.out; omega⟩
        case measure => simp [RowKit.intOf]; omega
    · obtain rfl : k = l.length := by omega
      have HF : Hid (allOk l = true) := by show _ = _; rw [HO.out, List.drop_length]; rfl
      rw [List.take_length] at HT HZ
      obtain ⟨T, hT⟩ : ∃ T, allStr l = T := ⟨_, rfl⟩
      have HTT := Lib.hid hT
      rw [hT] at HT HZ
      clear hT HO HZ
      go_wp2_with (go_at_call 80; refine (String_is w.heap.size b T _ HT.out.out.1 HT.out.out.2.2.size).mono ?_; rintro e w5 ⟨rfl, hb5⟩)
      go_ret2
      exact ⟨_, _, rfl, fun _ => ⟨HTT.out.symm, rfl⟩, (fun h => by rw [HF.out] at h; cases h), HT.out.out.2.2.trans hb5⟩
open Go.RowKit Go.Lib Prp Pkt Vbi Txt
def GivesParts (l : List Part) (C : Nat) (w : World) (e : Ending) (w' : World) : Prop := ∃ A c, e = .returned (.slice A l.length c) ∧ (A = none → c = 0) ∧ PartsAt w' w'.heap.size C A l ∧ Below w.heap.size w w'
def OwnParts (W : World) (base C : Nat) (v : Value) (l : List Part) : Prop := ∃ vs : List Value, vs.length = l.length ∧ W.ownsRow base 20 1 v l.length vs ∧ ∀ j (_ : j < vs.length) (_ : j < l.length), PV W C vs[j] l[j]
theorem info_any : (Tryz.prog.info? 20).map (fun i => (i.zero, i.size, i.bytes)) = some (some .nilIface, 1, 16) := by kernel_rfl
section
variable {W W' : World} {base C B : Nat} {v : Value} {l : List Part}
theorem row_own {w : World} {base e : Nat} {v : Value} {n : Nat} {vs : List Value} (h : w.ownsRow base e 1 v n vs) (hn : vs.length = n) : ∃ A c, v = .slice A n c ∧ (A = none → c = 0) ∧ Row w w.heap.size A vs := by
  rcases h.2 with ⟨hv, h0⟩ | ⟨g, cap, cur, hv, _, hg, _⟩
  · exact ⟨none, 0, by rw [hv, h0], fun _ => rfl, .inl (List.eq_nil_of_length_eq_zero (by omega))⟩
  · refine ⟨_, cap, hv, (fun h => by cases h), .inr ⟨_, rfl, (Array.getElem?_eq_some_iff.1 hg).1, fun j hj => ?_⟩⟩
    exact h.cells (by rw [hv]; rfl) j _ (List.getElem?_eq_getElem hj)
theorem OwnParts.nil (W : World) (base C : Nat) : OwnParts W base C (.slice none 0 0) [] := ⟨[], rfl, World.ownsRow_nil _ _ _ _, fun j h => by simp at h⟩
theorem OwnParts.below (h : OwnParts W base C v l) (hC : C ≤ W.heap.size) (hb : Below W.heap.size W W') : OwnParts W' base C v l := by
  obtain ⟨vs, h1, h2, h3⟩ := h
  exact ⟨vs, h1, own_below h2 hb, fun j x y => (h3 j x y).below (hb.mono hC)⟩
theorem OwnParts.gives {w : World} (h : OwnParts W base C v l) (hb : Below w.heap.size w W) : GivesParts l C w (.returned v) W := by
  obtain ⟨vs, h1, h2, h3⟩ := h
  obtain ⟨A, c, rfl, hc, hr⟩ := row_own h2 h1
  exact ⟨A, c, rfl, hc, ⟨vs, h1, hr, h3⟩, hb⟩
theorem lit_row (w : World) (vs : List Value) (T : TypeId) : Row (w.alloc (.cells vs.toArray T)) (w.heap.size + 1) (some ⟨w.heap.size, 0, none⟩) vs := by
  refine .inr ⟨_, rfl, by simp, fun j hj => ?_⟩
  rw [add_new, cell_of_row (w.alloc _) w.heap.size j _ _ (0, 0) (heap_alloc_new w _)]
  simp
theorem lit_parts (w : World) (C : Nat) (vs : List Value) (l : List Part) (n : Nat) (T : TypeId) (hC : C ≤ w.heap.size) (hn : n = l.length) (hl : vs.length = l.length) (h : ∀ j (_ : j < vs.length) (_ : j < l.length), PV w C vs[j] l[j]) :
    ∃ A c, Value.slice (some ⟨w.heap.size, 0, none⟩) n n = .slice A l.length c ∧ (A = none → c = 0) ∧ PartsAt (w.alloc (.cells vs.toArray T)) (w.alloc (.cells vs.toArray T)).heap.size C A l := by
  subst hn
  refine ⟨_, _, rfl, (fun h => by cases h), vs, hl, (lit_row w vs T).mono (by simp), fun j x y => (h j x y).below ((Below.refl _ _).alloc hC _)⟩
end
theorem own_add {W : World} {base C : Nat} {v' : Value} {l : List Part} {vs ws : List Value} {m : List Part} (h1 : vs.length = l.length) (h2 : ws.length = m.length) (ho : W.ownsRow base 20 1 v' (l.length + m.length) (vs ++ ws))
    (h3 : ∀ j (_ : j < vs.length) (_ : j < l.length), PV W C vs[j] l[j]) (h4 : ∀ j (_ : j < ws.length) (_ : j < m.length), PV W C ws[j] m[j]) : OwnParts W base C v' (l ++ m) := by
  refine ⟨vs ++ ws, by simp [h1, h2], by rw [List.length_append]; exact ho, fun j x y => ?_⟩
  by_cases hj : j < vs.length
  · rw [List.getElem_append_left hj, List.getElem_append_left (by omega)]
    exact h3 j hj (by omega)
  · rw [List.getElem_append_right (by omega), List.getElem_append_right (by omega)]
    have e : j - vs.length = j - l.length := by omega
    simp only [e]
    rw [List.length_append] at x y
    exact h4 (j - l.length) (by omega) (by omega)
theorem reasonParts_is (p : Pk) (a : Ad) (C : Nat) (w : World) (hC : C ≤ w.heap.size) (hf : PkFit p a) (h : PkAt w C p a) :
    Calls Tryz.prog 83 #[.agg (pkArr p a)] w (GivesParts (reasonL p) C w) := by
  have HC := Lib.hid hC
  have HP : Hid (PV w C (.iface 117 (.agg #[.int .i64 p.kind, .slice a.pa p.ps.length a.pc])) (.props p.kind p.ps)) := ⟨a.pa, a.pc, rfl, h.ps, hf.pl1.1, hf.pl1.2, hf.ps⟩
  clear h hf hC
  have HK0 := Keep.new w 30 (pkArr p a)
  obtain ⟨W1, hW⟩ : ∃ W1, w.alloc (.cells (pkArr p a) 30) = W1 := ⟨_, rfl⟩
  rw [hW] at HK0
  unfold pkArr at hW ⊢
  have HW := Lib.hid hW
  clear hW
  go_enter Tryz.func83, Tryz.ntmps83
  go_upto_region 1 with fail
  rw [HW.out]
  generalize Value.agg _ = v0
  obtain ⟨g, hg⟩ : ∃ g, w.heap.size = g := ⟨_, rfl⟩
  rw [hg] at HK0 ⊢
  have HK := Lib.hid HK0
  clear HW HK0
  have c0 := HK.out.f0
  have c7 := HK.out.f7
  have c24 := HK.out.f24
  by_cases hp : 0 < p.ps.length
  · have hL : reasonL p = [.octet p.re, .props p.kind p.ps] := by unfold reasonL; rw [if_pos (List.length_pos_iff.1 hp)]
    have hpI : decide ((0 : Int) < (p.ps.length : Int)) = true := decide_eq_true (by omega)
    have HL := Lib.hid hL
    clear hL
    go_wp2_with fail
    go_ret
    obtain ⟨A, c, hv, hcc, hpa⟩ := lit_parts W1 C [.iface 114 (.int .i64 p.re), .iface 117 (.agg #[.int .i64 p.kind, .slice a.pa p.ps.length a.pc])] [.octet p.re, .props p.kind p.ps] 2 20 (Nat.le_trans HC.out HK.out.out.2.size) rfl rfl (fun j x y => by
      match j, x, y with
      | 0, _, _ => rfl
      | 1, _, _ => exact PV.below HP.out (HK.out.out.2.mono HC.out))
    rw [HL.out]
    exact ⟨A, c, congrArg Ending.returned hv, hcc, hpa, HK.out.out.2.trans ((Below.refl _ _).alloc HK.out.out.2.size _)⟩
  have h0 : p.ps = [] := List.eq_nil_of_length_eq_zero (by omega)
  have hpI : decide ((0 : Int) < (p.ps.length : Int)) = false := decide_eq_false (by omega)
  by_cases hr : p.re = 0
  · have HL : Hid (reasonL p = []) := by show _ = _; unfold reasonL; rw [if_neg (by rw [h0]; simp), if_neg (by omega)]
    have e0 : (p.re != 0) = false := by rw [hr]; rfl
    clear hr h0
    go_wp2_with fail
    go_ret
    rw [HL.out]
    exact ⟨none, 0, rfl, fun _ => rfl, ⟨[], rfl, .inl rfl, fun j h => by simp at h⟩, HK.out.out.2⟩
  · have HL : Hid (reasonL p = [.octet p.re]) := by show _ = _; unfold reasonL; rw [if_neg (by rw [h0]; simp), if_pos hr]
    have e0 : (p.re != 0) = true := ne_true hr
    clear hr h0
    go_wp2_with fail
    go_ret
    obtain ⟨A, c, hv, hcc, hpa⟩ := lit_parts W1 C [.iface 114 (.int .i64 p.re)] [.octet p.re] 1 20 (Nat.le_trans HC.out HK.out.out.2.size) rfl rfl (fun j x y => by
      match j, x, y with
      | 0, _, _ => rfl)
    rw [HL.out]
    exact ⟨A, c, congrArg Ending.returned hv, hcc, hpa, HK.out.out.2.trans ((Below.refl _ _).alloc HK.out.out.2.size _)⟩
open Go.RowKit Go.Lib Prp Pkt Vbi Txt
theorem KP.grown {w W W' : World} {g : Nat} {p : Pk} {a : Ad} (h : KP w g p a W) (hg : w.heap.size = g) (hb : Below (w.heap.size + 1) W W') : KP w g p a W' := by
  refine .mk (.mk ?_ (h.b.trans (hb.mono (by omega)))) (h.out.2.below (hb.mono (by omega)))
  obtain ⟨T, hT⟩ := h.k.out.1
  exact ⟨T, (hb.block g (by omega)).trans hT⟩
theorem KP.room {w W : World} {g : Nat} {p : Pk} {a : Ad} (h : KP w g p a W) (hg : w.heap.size = g) : w.heap.size + 1 ≤ W.heap.size := by
  have := h.k.out.1.lt
  omega
theorem one_new (w : World) (T : TypeId) (v : Value) : ∀ j u, [v][j]? = some u → (w.alloc (.cells #[v] T)).cell? ((⟨w.heap.size, 0, none⟩ : Addr).add j) = some u := fun j u h => by
  rw [add_new, cell_of_row (w.alloc _) w.heap.size j _ _ (0, 0) (heap_alloc_new w _)]
  simpa using h
theorem codeL_snoc (l : List Int) (x : Int) : codeL (l ++ [x]) = codeL l ++ [.octet x] := by unfold codeL; rw [List.map_append]; rfl
theorem codeL_len (l : List Int) : (codeL l).length = l.length := by unfold codeL; rw [List.length_map]
theorem codeParts_is (p : Pk) (a : Ad) (C : Nat) (w : World) (hC : C ≤ w.heap.size) (hm : p.cs.length ≤ 64) (h : PkAt w w.heap.size p a) :
    Calls Tryz.prog 85 #[.agg (pkArr p a)] w (GivesParts (codeL p.cs) C w) := by
  obtain ⟨i0, hi, hz0, hz1, hz2⟩ := info_parts info_any
  have H := Lib.hid h
  clear h
  have HK0 := Keep.new w 30 (pkArr p a)
  obtain ⟨W1, hW⟩ : ∃ W1, w.alloc (.cells (pkArr p a) 30) = W1 := ⟨_, rfl⟩
  rw [hW] at HK0
  unfold pkArr at hW ⊢
  have HW := Lib.hid hW
  clear hW
  go_enter Tryz.func85, Tryz.ntmps85
  go_upto_region 2 with fail
  rw [HW.out]
  generalize Value.agg _ = v0
  obtain ⟨g, hg⟩ : ∃ g, w.heap.size = g := ⟨_, rfl⟩
  rw [hg] at HK0 ⊢
  have HK := Lib.hid (KP.new HK0 H.out)
  clear HW HK0 H
  have HG := Lib.hid hg
  clear hg
  have c9 := HK.out.k.f9
  go_wp2_with fail
  clear c9
  go_loopw [3, 9] (fun v i wr => ∃ k : Nat, k ≤ p.cs.length ∧ i = .int .i64 (k : Int) ∧ OwnParts wr (w.heap.size + 1) C v (codeL (p.cs.take k)) ∧ KP w g p a wr) (fun _ i _ => p.cs.length - (RowKit.intOf i).toNat)
  case atStart => exact ⟨0, Nat.zero_le _, rfl, .nil _ _ _, HK.out⟩
  case round =>
    obtain ⟨k, hk, rfl, hown, hst⟩ := hrel
    have HT := Lib.hid hst
    clear hst HK
    by_cases hlt : k < p.cs.length
    · have HS : Hid (codeL (p.cs.take (k + 1)) = codeL (p.cs.take k) ++ [.octet p.cs[k]]) := by show _ = _; rw [List.take_succ_eq_append_getElem hlt, codeL_snoc]
      obtain ⟨ad, hAd, hb0, hc⟩ := HT.out.out.2.cs.some_ (by omega)
      have d0 := hc k hlt
      rw [List.getD_eq_getElem?_getD, List.getElem?_eq_getElem hlt] at d0
      change _ = some (Value.int .i64 p.cs[k]) at d0
      clear hc
      have hlen : (codeL (p.cs.take k)).length = k := by rw [codeL_len, List.length_take]; omega
      obtain ⟨x, hx⟩ : ∃ x, p.cs[k] = x := ⟨_, rfl⟩
      rw [hx] at d0 HS
      obtain ⟨L, hL⟩ : ∃ L, codeL (p.cs.take k) = L := ⟨_, rfl⟩
      rw [hL] at hown HS hlen
      obtain ⟨vs, h1, h2, h3⟩ := hown
      have H1 := Lib.hid h1
      have HO := Lib.hid h2
      have HV := Lib.hid h3
      have HAd := Lib.hid hAd
      have HLn := Lib.hid hlen
      have hl64 : L.length ≤ 64 := by omega
      have hsz := HT.out.room HG.out
      have hkI : (k : Int) < (p.cs.length : Int) := by omega
      clear hx hL h1 h2 h3 hAd hlen
      rw [HAd.out]
      go_wp2_with (at_builtin; refine wpList_append_own _ rfl _ _ 67 rfl (w.heap.size + 1) 20 i0 .nilIface 1 16 Tryz.underlying67 hi hz0 hz1 hz2 rfl (by decide) _ _ _ rfl (HO.out.alloc _) ⟨wr.heap.size, 0, none⟩ 1 1 [.iface 114 (.int .i64 x)] rfl rfl ?c1 ?c2 ?c3 ?c4 ?c5 ?_)
      case c1 => exact one_new wr _ _
      case c2 => intro u hu; rw [List.mem_singleton] at hu; subst hu; rfl
      case c3 => unfold maxLen; omega
      case c4 => omega
      case c5 => rw [World.size_alloc]; omega
      intro v' w1 hown' hgrow _
      have hb1 := below_alloc_grown hsz HO.out hgrow
      have HT1 := Lib.hid (HT.out.grown HG.out hb1)
      have HP1 := Lib.hid (own_add H1.out (ws := [.iface 114 (.int .i64 x)]) (m := [.octet x]) rfl hown' (fun j y z => (HV.out j y z).below (hb1.mono (by omega))) (fun j y z => by
        match j, y, z with
        | 0, _, _ => rfl))
      clear hown' hgrow hb1 H1 HO HV HT
      go_wp2_with fail
      go_roundw
      case rel => exact ⟨k + 1, hlt, by go_num, by rw [HS.out]; exact HP1.out, HT1.out⟩
      case measure => simp [RowKit.intOf]; omega
    · obtain rfl : k = p.cs.length := by omega
      rw [List.take_length] at hown
      have HO := Lib.hid (hown.gives HT.out.b)
      clear hown
      go_wp2_with fail
      go_ret
      exact HO.out
theorem filterL_snoc (b : Bool) (l : List Fl) (f : Fl) : filterL b (l ++ [f]) = filterL b l ++ (if b = true then [.words f.t, .octet (filterZ f)] else [.words f.t]) := by
  unfold filterL
  rw [List.flatMap_append]
  simp
theorem filterL_len (b : Bool) (l : List Fl) : (filterL b l).length ≤ 2 * l.length := by
  induction l with
  | nil => exact Nat.le_refl _
  | cons x t ih =>
    have e : filterL b (x :: t) = (if b = true then [.words x.t, .octet (filterZ x)] else [.words x.t]) ++ filterL b t := by unfold filterL; rw [List.flatMap_cons]
    rw [e, List.length_append, List.length_cons]
    cases b <;> simp <;> omega
theorem filterParts_is (p : Pk) (a : Ad) (C : Nat) (w : World) (hC : C ≤ w.heap.size) (hm : p.fs.length ≤ 32) (hq : ∀ f ∈ p.fs, (0 ≤ f.q ∧ f.q ≤ 2) ∧ (0 ≤ f.h ∧ f.h ≤ 2) ∧ f.t.size ≤ 140737488351232) (h : PkAt w w.heap.size p a) :
    Calls Tryz.prog 84 #[.agg (pkArr p a)] w (GivesParts (filterL (decide (p.kind = 8)) p.fs) C w) := by
  obtain ⟨i0, hi, hz0, hz1, hz2⟩ := info_parts info_any
  have H := Lib.hid h
  have HQ := Lib.hid hq
  clear h hq
  obtain ⟨s8, hs8⟩ : ∃ s, decide (p.kind = 8) = s := ⟨_, rfl⟩
  rw [hs8]
  have e8 : (p.kind == 8) = s8 := hs8
  clear hs8
  have HK0 := Keep.new w 30 (pkArr p a)
  obtain ⟨W1, hW⟩ : ∃ W1, w.alloc (.cells (pkArr p a) 30) = W1 := ⟨_, rfl⟩
  rw [hW] at HK0
  unfold pkArr at hW ⊢
  have HW := Lib.hid hW
  clear hW
  go_enter Tryz.func84, Tryz.ntmps84
  go_upto_region 2 with fail
  rw [HW.out]
  generalize Value.agg _ = v0
  obtain ⟨g, hg⟩ : ∃ g, w.heap.size = g := ⟨_, rfl⟩
  rw [hg] at HK0 ⊢
  have HK := Lib.hid (KP.new HK0 H.out)
  clear HW HK0 H
  have HG := Lib.hid hg
  clear hg
  have c10 := HK.out.k.f10
  go_wp2_with fail
  clear c10
  go_loopw [3, 9] (fun v i wr => ∃ k : Nat, k ≤ p.fs.length ∧ i = .int .i64 (k : Int) ∧ OwnParts wr (w.heap.size + 1) C v (filterL s8 (p.fs.take k)) ∧ KP w g p a wr) (fun _ i _ => p.fs.length - (RowKit.intOf i).toNat)
  case atStart => exact ⟨0, Nat.zero_le _, rfl, .nil _ _ _, HK.out⟩
  case round =>
    obtain ⟨k, hk, rfl, hown, hst⟩ := hrel
    have HT := Lib.hid hst
    clear hst HK
    by_cases hlt : k < p.fs.length
    · have HS : Hid (filterL s8 (p.fs.take (k + 1)) = filterL s8 (p.fs.take k) ++ (if s8 = true then [.words p.fs[k].t, .octet (filterZ p.fs[k])] else [.words p.fs[k].t])) := by show _ = _; rw [List.take_succ_eq_append_getElem hlt, filterL_snoc]
      obtain ⟨b0, o, hAd, hb0, hc⟩ := HT.out.out.2.fs.some_ (by omega)
      obtain ⟨d0, d1, d2, d3, d4⟩ := hc k hlt
      clear hc
      have hlen : (filterL s8 (p.fs.take k)).length ≤ 64 := by have := filterL_len s8 (p.fs.take k); rw [List.length_take] at this; omega
      obtain ⟨⟨q0, q1⟩, ⟨q2, q3⟩, q4⟩ := HQ.out _ (List.getElem_mem hlt)
      obtain ⟨f, hf⟩ : ∃ f, p.fs[k] = f := ⟨_, rfl⟩
      rw [hf] at d0 d1 d2 d3 d4 HS q0 q1 q2 q3 q4
      obtain ⟨L, hL⟩ : ∃ L, filterL s8 (p.fs.take k) = L := ⟨_, rfl⟩
      rw [hL] at hown HS hlen
      obtain ⟨vs, h1, h2, h3⟩ := hown
      have H1 := Lib.hid h1
      have ho0 := h2.alloc (.cells #[.string f.t, .int .i64 f.q, .bool f.nl, .bool f.ar, .int .i64 f.h] 77)
      have hne : ∀ e, u3.ownBlock = some e → e < wr.heap.size := fun e he => (h2.lt e he).2
      have hv0 : ∀ j (_ : j < vs.length) (_ : j < L.length), PV (wr.alloc (.cells #[.string f.t, .int .i64 f.q, .bool f.nl, .bool f.ar, .int .i64 f.h] 77)) C vs[j] L[j] := fun j x y => (h3 j x y).below ((Below.refl _ _).alloc (Nat.le_trans hC HT.out.b.size) _)
      have HAd := Lib.hid hAd
      have ht0 := HT.out.alloc (.cells #[.string f.t, .int .i64 f.q, .bool f.nl, .bool f.ar, .int .i64 f.h] 77)
      have hb0 := Box.new wr 77 #[.string f.t, .int .i64 f.q, .bool f.nl, .bool f.ar, .int .i64 f.h]
      have hkI : (k : Int) < (p.fs.length : Int) := by omega
      obtain ⟨wf, hwf⟩ : ∃ wf, wr.alloc (.cells #[.string f.t, .int .i64 f.q, .bool f.nl, .bool f.ar, .int .i64 f.h] 77) = wf := ⟨_, rfl⟩
      have hwz : wf.heap.size = wr.heap.size + 1 := by rw [← hwf, World.size_alloc]
      rw [hwf] at ho0 hv0 ht0 hb0
      have HWF := Lib.hid hwf
      have HO := Lib.hid ho0
      have HV := Lib.hid hv0
      have HT0 := Lib.hid ht0
      have HB0 := Lib.hid hb0
      have HNE := Lib.hid hne
      have HWZ := Lib.hid hwz
      clear hf hL h1 h2 h3 hAd ho0 hv0 ht0 hb0 hne hwz hwf
      rw [HAd.out]
      go_upto_region 5 with fail
      rw [HWF.out]
      obtain ⟨gf, hgf⟩ : ∃ gf, wr.heap.size = gf := ⟨_, rfl⟩
      rw [hgf] at HB0 HNE HWZ ⊢
      clear d0 d1 d2 d3 d4 HWF HT hgf
      have e0 : wf.cell? ⟨gf, 0, none⟩ = some (.string f.t) := HB0.out.cell 0
      have hsz := HT0.out.room HG.out
      go_wp2_with (at_builtin; refine wpList_append_own _ rfl _ _ 67 rfl (w.heap.size + 1) 20 i0 .nilIface 1 16 Tryz.underlying67 hi hz0 hz1 hz2 rfl (by decide) _ _ _ rfl (HO.out.alloc _) ⟨wf.heap.size, 0, none⟩ 1 1 [.iface 118 (.string f.t)] rfl rfl ?c1 ?c2 ?c3 ?c4 ?c5 ?_)
      case c1 => exact one_new wf _ _
      case c2 => intro u hu; rw [List.mem_singleton] at hu; subst hu; rfl
      case c3 => unfold maxLen; omega
      case c4 => omega
      case c5 => rw [World.size_alloc]; omega
      intro v' w1 hown' hgrow _
      have hb1 := below_alloc_grown hsz HO.out hgrow
      have HT1 := Lib.hid (HT0.out.grown HG.out hb1)
      have hbox : Box w1 gf #[.string f.t, .int .i64 f.q, .bool f.nl, .bool f.ar, .int .i64 f.h] := by
        obtain ⟨T, hT⟩ := HB0.out
        refine ⟨T, ?_⟩
        have hz := HWZ.out
        rw [hgrow.block gf (by rw [World.size_alloc]; omega) (fun h => by have := HNE.out gf h.symm; omega), Below.heap_alloc wf _ gf (by omega)]
        exact hT
      have HB1 := Lib.hid hbox
      obtain ⟨vs1, k1, k2, k3⟩ := own_add H1.out (ws := [.iface 118 (.string f.t)]) (m := [.words f.t]) rfl hown' (fun j y z => (HV.out j y z).below (hb1.mono (by omega))) (fun j y z => by
        match j, y, z with
        | 0, _, _ => exact ⟨rfl, q4⟩)
      have K1 := Lib.hid k1
      have K2 := Lib.hid k2
      have K3 := Lib.hid k3
      clear hown' hgrow hb1 H1 HO HV HT0 HB0 HNE HWZ e0 hbox k1 k2 k3
      have f0 := HT1.out.k.f0
      cases s8 with
      | false =>
        go_wp2_with fail
        go_roundw
        case rel => exact ⟨k + 1, hlt, by go_num, by rw [HS.out]; exact ⟨vs1, K1.out, K2.out, K3.out⟩, HT1.out⟩
        case measure => simp [RowKit.intOf]; omega
      | true =>
        have HFF := Lib.hid (fun W => filterFlags_is f _ W q0 (by omega) q2 (by omega) rfl)
        have e0 : w1.cell? ⟨gf, 0, none⟩ = some (.string f.t) := HB1.out.cell 0
        have e1 : w1.cell? ⟨gf, 1, none⟩ = some (.int .i64 f.q) := HB1.out.cell 1
        have e2 : w1.cell? ⟨gf, 2, none⟩ = some (.bool f.nl) := HB1.out.cell 2
        have e3 : w1.cell? ⟨gf, 3, none⟩ = some (.bool f.ar) := HB1.out.cell 3
        have e4 : w1.cell? ⟨gf, 4, none⟩ = some (.int .i64 f.h) := HB1.out.cell 4
        have hl66 : (L ++ [Part.words f.t]).length ≤ 65 := by simp; omega
        obtain ⟨M, hM⟩ : ∃ M, L ++ [Part.words f.t] = M := ⟨_, rfl⟩
        have HM : Hid (filterL true (p.fs.take (k + 1)) = M ++ [.octet (filterZ f)]) := by show _ = _; rw [HS.out, ← hM]; simp
        rw [hM] at K1 K2 K3 hl66
        obtain ⟨z, hz⟩ : ∃ z, filterZ f = z := ⟨_, rfl⟩
        rw [hz] at HFF HM
        clear hM hz HS
        go_upto_region 7 with fail
        go_wp2_with (first
          | (go_at_call 113; refine (HFF.out _).mono ?_; rintro e w2 ⟨rfl, hb2⟩; have HT2 := Lib.hid (HT1.out.below hb2); have K4 := Lib.hid (own_below K2.out hb2); have hsz2 := HT2.out.room HG.out; have HB2 := Lib.hid hb2; have hsz1 := HT1.out.b.size; clear hb2)
          | (at_builtin; refine wpList_append_own _ rfl _ _ 67 rfl (w.heap.size + 1) 20 i0 .nilIface 1 16 Tryz.underlying67 hi hz0 hz1 hz2 rfl (by decide) _ _ _ rfl (K4.out.alloc _) ⟨w2.heap.size, 0, none⟩ 1 1 [.iface 114 (.int .i64 z)] rfl rfl ?c6 ?c7 ?c8 ?c9 ?c10 ?_))
        case c6 => exact one_new w2 _ _
        case c7 => intro u hu; rw [List.mem_singleton] at hu; subst hu; rfl
        case c8 => unfold maxLen; omega
        case c9 => omega
        case c10 => rw [World.size_alloc]; omega
        intro v2 w3 hown2 hgrow2 _
        have hb3 := below_alloc_grown hsz2 K4.out hgrow2
        have HT3 := Lib.hid (HT2.out.grown HG.out hb3)
        have HP3 := Lib.hid (own_add K1.out (ws := [.iface 114 (.int .i64 z)]) (m := [.octet z]) rfl hown2 (fun j y z => ((K3.out j y z).below (HB2.out.mono (Nat.le_trans hC hsz1))).below (hb3.mono (by omega))) (fun j y z => by
          match j, y, z with
          | 0, _, _ => rfl))
        clear hown2 hgrow2 hb3 HB2 K1 K2 K3 K4 HB1 HT1 HT2 e0 e1 e2 e3 e4 f0
        go_wp2_with fail
        go_roundw
        case rel => exact ⟨k + 1, hlt, by go_num, by rw [HM.out]; exact HP3.out, HT3.out⟩
        case measure => simp [RowKit.intOf]; omega
    · obtain rfl : k = p.fs.length := by omega
      rw [List.take_length] at hown
      have HO := Lib.hid (hown.gives HT.out.b)
      clear hown
      go_wp2_with fail
      go_ret
      exact HO.out
open Go.RowKit Go.Lib Prp Pkt Vbi Txt
theorem news_at (w : World) (T : TypeId) (cs : List Value) (j : Nat) (u : Value) (h : cs[j]? = some u) : (w.alloc (.cells cs.toArray T)).cell? ((⟨w.heap.size, 0, none⟩ : Addr).add j) = some u := by
  rw [add_new, cell_of_row (w.alloc _) w.heap.size j _ _ (0, 0) (heap_alloc_new w _)]
  simpa using h
theorem lit_own (w : World) (base : Nat) (vs : List Value) (n : Nat) (T : TypeId) (hb : base ≤ w.heap.size) (hn : vs.length = n) (hm : n ≤ 1000) : (w.alloc (.cells vs.toArray T)).ownsRow base T 1 (.slice (some ⟨w.heap.size, 0, none⟩) n n) n vs := by
  refine ⟨by omega, .inr ⟨w.heap.size, n, vs.toArray, rfl, hb, heap_alloc_new w _, Nat.le_refl _, by unfold maxLen; omega, by simp [hn], ?_⟩⟩
  rw [Nat.mul_one, ← hn]; simp
theorem lit_ownp (w : World) (base C : Nat) (vs : List Value) (l : List Part) (n : Nat) (hb : base ≤ w.heap.size) (hC : C ≤ w.heap.size) (hn : vs.length = n) (hl : l.length = n) (hm : n ≤ 1000) (h : ∀ j (_ : j < vs.length) (_ : j < l.length), PV w C vs[j] l[j]) :
    OwnParts (w.alloc (.cells vs.toArray 20)) base C (.slice (some ⟨w.heap.size, 0, none⟩) n n) l :=
  ⟨vs, by omega, by rw [hl]; exact lit_own w base vs n _ hb hn hm, fun j x y => (h j x y).below ((Below.refl _ _).alloc hC _)⟩
theorem connectParts_is (p : Pk) (a : Ad) (C : Nat) (w : World) (hC : C ≤ w.heap.size) (h0 : 0 ≤ p.w.q) (h3 : p.w.q ≤ 3) (h : PkAt w C p a) (hf : PkFit p a) :
    Calls Tryz.prog 81 #[.agg (pkArr p a)] w (GivesParts (connectL p) C w) := by
  obtain ⟨i0, hi, hz0, hz1, hz2⟩ := info_parts info_any
  have H := Lib.hid (h.mono hC)
  have HCP := Lib.hid h
  obtain ⟨z, hz⟩ : ∃ z, loginZ p = z := ⟨_, rfl⟩
  have HC := Lib.hid (fun W => connectFlags_is p a z W h0 h3 hz)
  have HZ := Lib.hid hz
  clear h hz
  have HK0 := Keep.new w 30 (pkArr p a)
  obtain ⟨W1, hW⟩ : ∃ W1, w.alloc (.cells (pkArr p a) 30) = W1 := ⟨_, rfl⟩
  rw [hW] at HK0
  unfold pkArr at hW ⊢
  have HW := Lib.hid hW
  clear hW
  go_enter Tryz.func81, Tryz.ntmps81
  go_upto_region 1 with fail
  rw [HW.out]
  generalize Value.agg _ = v0
  obtain ⟨g, hg⟩ : ∃ g, w.heap.size = g := ⟨_, rfl⟩
  rw [hg] at HK0 ⊢
  have HK := Lib.hid (KP.new HK0 H.out)
  clear HW HK0 H
  have HG := Lib.hid hg
  clear hg
  have st0 := HK.out
  clear HK
  refine wp_region_held_drew (S := KP w g p a) (by kernel_rfl) (st0.drewN 1) (fun hHeld => ?_)
  refine take_op 0 4 ?v0x1 rfl rfl (by kernel_rfl) (fun _ _ _ h => h) (by rfl) (by assumption) (fun w' hS' => ?hv0x1) ?h0x1
  case hv0x1 => (go_simp; try with_reducible rfl)
  simp only [Act.put, List.setIfInBounds_toArray, List.set_cons_zero, List.set_cons_succ]
  refine take_op 1 5 ?v1x2 rfl rfl (by kernel_rfl) (fun _ _ _ h => h) (by rfl) (by assumption) (fun w' hS' => ?hv1x2) ?h1x2
  case hv1x2 => (go_simp; try with_reducible rfl)
  simp only [Act.put, List.setIfInBounds_toArray, List.set_cons_zero, List.set_cons_succ]
  refine take_load 2 6 30 (.tmp 1) g 0 (.agg (pkArr p a)) rfl rfl (by kernel_rfl) (fun _ _ _ h => h) (by rfl) (by assumption) rfl rfl (fun w' hS' => load_pk hS'.k) ?_
  simp only [Act.put, List.setIfInBounds_toArray, List.set_cons_zero, List.set_cons_succ]
  refine take_op 5 9 ?v5x3 rfl rfl (by kernel_rfl) (fun _ _ _ h => h) (by rfl) (by assumption) (fun w' hS' => ?hv5x3) ?h5x3
  case hv5x3 => (go_simp; try with_reducible rfl)
  simp only [Act.put, List.setIfInBounds_toArray, List.set_cons_zero, List.set_cons_succ]
  refine take_op 6 10 ?v6x4 rfl rfl (by kernel_rfl) (fun _ _ _ h => h) (by rfl) (by assumption) (fun w' hS' => ?hv6x4) ?h6x4
  case hv6x4 => (have k := hS'.k.f13; go_simp; try with_reducible rfl)
  simp only [Act.put, List.setIfInBounds_toArray, List.set_cons_zero, List.set_cons_succ]
  refine take_op 7 11 ?v7x5 rfl rfl (by kernel_rfl) (fun _ _ _ h => h) (by rfl) (by assumption) (fun w' hS' => ?hv7x5) ?h7x5
  case hv7x5 => (go_simp; try with_reducible rfl)
  simp only [Act.put, List.setIfInBounds_toArray, List.set_cons_zero, List.set_cons_succ]
  refine take_op 8 12 ?v8x6 rfl rfl (by kernel_rfl) (fun _ _ _ h => h) (by rfl) (by assumption) (fun w' hS' => ?hv8x6) ?h8x6
  case hv8x6 => (go_simp; try with_reducible rfl)
  simp only [Act.put, List.setIfInBounds_toArray, List.set_cons_zero, List.set_cons_succ]
  refine take_op 9 13 ?v9x7 rfl rfl (by kernel_rfl) (fun _ _ _ h => h) (by rfl) (by assumption) (fun w' hS' => ?hv9x7) ?h9x7
  case hv9x7 => (have k := hS'.k.f0; go_simp; try with_reducible rfl)
  simp only [Act.put, List.setIfInBounds_toArray, List.set_cons_zero, List.set_cons_succ]
  refine take_op 10 14 ?v10x8 rfl rfl (by kernel_rfl) (fun _ _ _ h => h) (by rfl) (by assumption) (fun w' hS' => ?hv10x8) ?h10x8
  case hv10x8 => (go_simp; try with_reducible rfl)
  simp only [Act.put, List.setIfInBounds_toArray, List.set_cons_zero, List.set_cons_succ]
  refine take_op 11 15 ?v11x9 rfl rfl (by kernel_rfl) (fun _ _ _ h => h) (by rfl) (by assumption) (fun w' hS' => ?hv11x9) ?h11x9
  case hv11x9 => (have k := hS'.k.f24; go_simp; try with_reducible rfl)
  simp only [Act.put, List.setIfInBounds_toArray, List.set_cons_zero, List.set_cons_succ]
  refine take_op 12 16 ?v12x10 rfl rfl (by kernel_rfl) (fun _ _ _ h => h) (by rfl) (by assumption) (fun w' hS' => ?hv12x10) ?h12x10
  case hv12x10 => (go_simp; try with_reducible rfl)
  simp only [Act.put, List.setIfInBounds_toArray, List.set_cons_zero, List.set_cons_succ]
  refine take_op 13 17 ?v13x11 rfl rfl (by kernel_rfl) (fun _ _ _ h => h) (by rfl) (by assumption) (fun w' hS' => ?hv13x11) ?h13x11
  case hv13x11 => (go_simp; try with_reducible rfl)
  simp only [Act.put, List.setIfInBounds_toArray, List.set_cons_zero, List.set_cons_succ]
  refine take_op 14 18 ?v14x12 rfl rfl (by kernel_rfl) (fun _ _ _ h => h) (by rfl) (by assumption) (fun w' hS' => ?hv14x12) ?h14x12
  case hv14x12 => (go_simp; try with_reducible rfl)
  simp only [Act.put, List.setIfInBounds_toArray, List.set_cons_zero, List.set_cons_succ]
  refine take_op 15 19 ?v15x13 rfl rfl (by kernel_rfl) (fun _ _ _ h => h) (by rfl) (by assumption) (fun w' hS' => ?hv15x13) ?h15x13
  case hv15x13 => (have k := hS'.k.f11; go_simp; try with_reducible rfl)
  simp only [Act.put, List.setIfInBounds_toArray, List.set_cons_zero, List.set_cons_succ]
  refine take_op 16 20 ?v16x14 rfl rfl (by kernel_rfl) (fun _ _ _ h => h) (by rfl) (by assumption) (fun w' hS' => ?hv16x14) ?h16x14
  case hv16x14 => (go_simp; try with_reducible rfl)
  simp only [Act.put, List.setIfInBounds_toArray, List.set_cons_zero, List.set_cons_succ]
  refine only_op 3 rfl (by kernel_rfl) (by rfl) (wp_call 7 112 #[.agg (pkArr p a)] (.int .i64 z) (KP w g p a) rfl (by go_simp) ((HC.out _).mono fun _ _ h => ⟨h.1, hHeld.below h.2⟩) (fun w1 st1 => ⟨st1, ?_⟩))
  simp only [Act.put, List.setIfInBounds_toArray, List.set_cons_zero, List.set_cons_succ]
  refine take_op 4 8 ?v4x15 rfl rfl (by kernel_rfl) (fun _ _ _ h => h) (by rfl) (by assumption) (fun w' hS' => ?hv4x15) ?h4x15
  case hv4x15 => (go_simp; try with_reducible rfl)
  simp only [Act.put, List.setIfInBounds_toArray, List.set_cons_zero, List.set_cons_succ]
  have st2 := st1.alloc (.cells #[.iface 118 (.string ⟨#[77, 81, 84, 84]⟩), .iface 114 (.int .i64 5), .iface 114 (.int .i64 z), .iface 141 (.int .i64 p.keep), .iface 117 (.agg #[.int .i64 p.kind, .slice a.pa p.ps.length a.pc]), .iface 118 (.string p.cl)] 20)
  refine only_op 17 rfl (by kernel_rfl) (by rfl) (wp_made 21 (.slice (some ⟨w1.heap.size, 0, none⟩) 6 6) rfl (by go_simp) ⟨st2, ?_⟩)
  simp only [Act.put, List.setIfInBounds_toArray, List.set_cons_zero, List.set_cons_succ]
  refine take_op 18 3 ?v18x16 rfl rfl (by kernel_rfl) (fun _ _ _ h => h) (by rfl) (by assumption) (fun w' hS' => ?hv18x16) ?h18x16
  case hv18x16 => (go_simp; try with_reducible rfl)
  simp only [Act.put, List.setIfInBounds_toArray, List.set_cons_zero, List.set_cons_succ]
  refine wpAnyH_done (by kernel_rfl) ?_ _
  have hown := lit_ownp w1 (w.heap.size + 1) C [.iface 118 (.string ⟨#[77, 81, 84, 84]⟩), .iface 114 (.int .i64 5), .iface 114 (.int .i64 z), .iface 141 (.int .i64 p.keep), .iface 117 (.agg #[.int .i64 p.kind, .slice a.pa p.ps.length a.pc]), .iface 118 (.string p.cl)] [.words mqtt, .octet 5, .octet z, .short p.keep, .props p.kind p.ps, .words p.cl] 6 (st1.room HG.out) (Nat.le_trans hC st1.b.size) rfl rfl (by decide) (fun j x y => by
    match j, x, y with
    | 0, _, _ => exact ⟨rfl, by decide⟩
    | 1, _, _ => rfl
    | 2, _, _ => rfl
    | 3, _, _ => exact ⟨rfl, hf.keep.2⟩
    | 4, _, _ => exact ⟨a.pa, a.pc, rfl, (HCP.out.below (st1.b.mono hC)).ps, hf.pl1.1, hf.pl1.2, hf.ps⟩
    | 5, _, _ => exact ⟨rfl, hf.cl⟩)
  obtain ⟨w2, hw2⟩ : ∃ w2, w1.alloc (.cells [Value.iface 118 (.string ⟨#[77, 81, 84, 84]⟩), .iface 114 (.int .i64 5), .iface 114 (.int .i64 z), .iface 141 (.int .i64 p.keep), .iface 117 (.agg #[.int .i64 p.kind, .slice a.pa p.ps.length a.pc]), .iface 118 (.string p.cl)].toArray 20) = w2 := ⟨_, rfl⟩
  rw [hw2] at hown
  rw [hw2] at st2 ⊢
  generalize Value.slice (some ⟨w1.heap.size, 0, none⟩) 6 6 = v3 at hown ⊢
  have HK := Lib.hid st2
  have HO := Lib.hid hown
  clear hw2 st2 hown hHeld st1 st0
  have hwl : (willL p).length ≤ 3 := by unfold willL; split <;> simp
  have hul : (userL p).length ≤ 1 := by unfold userL; split <;> simp
  obtain ⟨L0, hL0⟩ : ∃ L : List Part, [.words mqtt, .octet 5, .octet z, .short p.keep, .props p.kind p.ps, .words p.cl] = L := ⟨_, rfl⟩
  rw [hL0] at HO
  have hl0 : L0.length ≤ 6 := by rw [← hL0]; exact Nat.le_refl _
  have HL0 := Lib.hid hL0
  clear hL0
  have c14 := HK.out.k.f14
  go_upto_if 24 with fail
  go_cut [3] (fun v wx => OwnParts wx (w.heap.size + 1) C v (L0 ++ willL p) ∧ KP w g p a wx)
  case first =>
    by_cases hh : p.w.has = true
    · have HW : Hid (willL p = [.props 0 p.w.ps, .words p.w.t, .sized p.w.b]) := by show _ = _; unfold willL; rw [if_pos hh]
      obtain ⟨vs, h1, h2, h3⟩ := HO.out
      have A1 := Lib.hid h1
      have A2 := Lib.hid h2
      have A3 := Lib.hid h3
      clear h1 h2 h3
      have hsz := HK.out.room HG.out
      have c17 := HK.out.k.f17
      have c18 := HK.out.k.f18
      have c19 := HK.out.k.f19
      try rw [hh]
      go_wp2_with (at_builtin; refine wpList_append_own _ rfl _ _ 67 rfl (w.heap.size + 1) 20 i0 .nilIface 1 16 Tryz.underlying67 hi hz0 hz1 hz2 rfl (by decide) _ _ _ rfl (A2.out.alloc _) ⟨w2.heap.size, 0, none⟩ 3 3 [.iface 117 (.agg #[.int .i64 0, .slice a.wa p.w.ps.length a.wc]), .iface 118 (.string p.w.t), .iface 146 (.string p.w.b)] rfl rfl ?c1 ?c2 ?c3 ?c4 ?c5 ?_)
      case c1 => exact fun j u h => news_at w2 _ [.iface 117 (.agg #[.int .i64 0, .slice a.wa p.w.ps.length a.wc]), .iface 118 (.string p.w.t), .iface 146 (.string p.w.b)] j u h
      case c2 => intro u hu; simp only [List.mem_cons, List.not_mem_nil, or_false] at hu; rcases hu with rfl | rfl | rfl <;> rfl
      case c3 => unfold maxLen; show L0.length + 3 ≤ _; omega
      case c4 => show (L0.length + 3) * 16 ≤ _; omega
      case c5 => rw [World.size_alloc]; omega
      intro v' w3 hown' hgrow _
      have hb3 := below_alloc_grown hsz A2.out hgrow
      have HK3 := Lib.hid (HK.out.grown HG.out hb3)
      have HO3 := Lib.hid (own_add A1.out (ws := [.iface 117 (.agg #[.int .i64 0, .slice a.wa p.w.ps.length a.wc]), .iface 118 (.string p.w.t), .iface 146 (.string p.w.b)]) (m := [.props 0 p.w.ps, .words p.w.t, .sized p.w.b]) rfl hown' (fun j y z => (A3.out j y z).below (hb3.mono (by omega))) (fun j y z => by
        match j, y, z with
        | 0, _, _ => exact ⟨a.wa, a.wc, rfl, (HCP.out.below (HK3.out.b.mono hC)).ws, hf.wl1.1, hf.wl1.2, hf.ws⟩
        | 1, _, _ => exact ⟨rfl, hf.wt⟩
        | 2, _, _ => exact ⟨rfl, hf.wb⟩))
      clear hown' hgrow hb3 A1 A2 A3
      go_wp2_with fail
      go_meet
      exact ⟨by rw [HW.out]; exact HO3.out, HK3.out⟩
    · have HW : Hid (willL p = []) := by show _ = _; unfold willL; rw [if_neg hh]
      try rw [Bool.eq_false_iff.2 hh]
      go_wp2_with fail
      go_meet
      exact ⟨by rw [HW.out, List.append_nil]; exact HO.out, HK.out⟩
  case rest =>
    obtain ⟨hown, hkp⟩ := hcut
    clear HO HK c14
    have HO := Lib.hid hown
    have HK := Lib.hid hkp
    clear hown hkp
    obtain ⟨L1, hL1⟩ : ∃ L, L0 ++ willL p = L := ⟨_, rfl⟩
    have hl1 : L1.length ≤ 9 := by rw [← hL1, List.length_append]; omega
    rw [hL1] at HO
    have HL1 := Lib.hid hL1
    clear hL1
    have c20 := HK.out.k.f20
    go_upto_if 42 with fail
    go_cut [3] (fun v wx => OwnParts wx (w.heap.size + 1) C v (L1 ++ userL p) ∧ KP w g p a wx)
    case first =>
      by_cases hh : p.hu = true
      · have HW : Hid (userL p = [.words p.u]) := by show _ = _; unfold userL; rw [if_pos hh]
        obtain ⟨vs, h1, h2, h3⟩ := HO.out
        have A1 := Lib.hid h1
        have A2 := Lib.hid h2
        have A3 := Lib.hid h3
        clear h1 h2 h3
        have hsz := HK.out.room HG.out
        have c21 := HK.out.k.f21
        try rw [hh]
        go_wp2_with (at_builtin; refine wpList_append_own _ rfl _ _ 67 rfl (w.heap.size + 1) 20 i0 .nilIface 1 16 Tryz.underlying67 hi hz0 hz1 hz2 rfl (by decide) _ _ _ rfl (A2.out.alloc _) ⟨wc.heap.size, 0, none⟩ 1 1 [.iface 118 (.string p.u)] rfl rfl ?d1 ?d2 ?d3 ?d4 ?d5 ?_)
        case d1 => exact fun j u h => news_at wc _ [.iface 118 (.string p.u)] j u h
        case d2 => intro u hu; simp only [List.mem_cons, List.not_mem_nil, or_false] at hu; subst hu; rfl
        case d3 => unfold maxLen; show L1.length + 1 ≤ _; omega
        case d4 => show (L1.length + 1) * 16 ≤ _; omega
        case d5 => rw [World.size_alloc]; omega
        intro v' w3 hown' hgrow _
        have hb3 := below_alloc_grown hsz A2.out hgrow
        have HK3 := Lib.hid (HK.out.grown HG.out hb3)
        have HO3 := Lib.hid (own_add A1.out (ws := [.iface 118 (.string p.u)]) (m := [.words p.u]) rfl hown' (fun j y z => (A3.out j y z).below (hb3.mono (by omega))) (fun j y z => by
          match j, y, z with
          | 0, _, _ => exact ⟨rfl, hf.u⟩))
        clear hown' hgrow hb3 A1 A2 A3
        go_wp2_with fail
        go_meet
        exact ⟨by rw [HW.out]; exact HO3.out, HK3.out⟩
      · have HW : Hid (userL p = []) := by show _ = _; unfold userL; rw [if_neg hh]
        try rw [Bool.eq_false_iff.2 hh]
        go_wp2_with fail
        go_meet
        exact ⟨by rw [HW.out, List.append_nil]; exact HO.out, HK.out⟩
    case rest =>
      obtain ⟨hown, hkp⟩ := hcut
      clear HO HK c20
      have HO := Lib.hid hown
      have HK := Lib.hid hkp
      clear hown hkp
      obtain ⟨L2, hL2⟩ : ∃ L, L1 ++ userL p = L := ⟨_, rfl⟩
      have hl2 : L2.length ≤ 10 := by rw [← hL2, List.length_append]; omega
      rw [hL2] at HO
      have HL2 := Lib.hid hL2
      clear hL2
      have HE : Hid (connectL p = L2 ++ passL p) := by
        show _ = _
        rw [← HL2.out, ← HL1.out, ← HL0.out]
        unfold connectL
        rw [HZ.out]
      have c22 := HK.out.k.f22
      go_upto_if 50 with fail
      go_cut [3] (fun v wx => OwnParts wx (w.heap.size + 1) C v (L2 ++ passL p) ∧ KP w g p a wx)
      case first =>
        by_cases hh : p.hp = true
        · have HW : Hid (passL p = [.sized p.pw]) := by show _ = _; unfold passL; rw [if_pos hh]
          obtain ⟨vs, h1, h2, h3⟩ := HO.out
          have A1 := Lib.hid h1
          have A2 := Lib.hid h2
          have A3 := Lib.hid h3
          clear h1 h2 h3
          have hsz := HK.out.room HG.out
          have c23 := HK.out.k.f23
          try rw [hh]
          go_wp2_with (at_builtin; refine wpList_append_own _ rfl _ _ 67 rfl (w.heap.size + 1) 20 i0 .nilIface 1 16 Tryz.underlying67 hi hz0 hz1 hz2 rfl (by decide) _ _ _ rfl (A2.out.alloc _) ⟨wc.heap.size, 0, none⟩ 1 1 [.iface 146 (.string p.pw)] rfl rfl ?e1 ?e2 ?e3 ?e4 ?e5 ?_)
          case e1 => exact fun j u h => news_at wc _ [.iface 146 (.string p.pw)] j u h
          case e2 => intro u hu; simp only [List.mem_cons, List.not_mem_nil, or_false] at hu; subst hu; rfl
          case e3 => unfold maxLen; show L2.length + 1 ≤ _; omega
          case e4 => show (L2.length + 1) * 16 ≤ _; omega
          case e5 => rw [World.size_alloc]; omega
          intro v' w3 hown' hgrow _
          have hb3 := below_alloc_grown hsz A2.out hgrow
          have HK3 := Lib.hid (HK.out.grown HG.out hb3)
          have HO3 := Lib.hid (own_add A1.out (ws := [.iface 146 (.string p.pw)]) (m := [.sized p.pw]) rfl hown' (fun j y z => (A3.out j y z).below (hb3.mono (by omega))) (fun j y z => by
            match j, y, z with
            | 0, _, _ => exact ⟨rfl, hf.pw⟩))
          clear hown' hgrow hb3 A1 A2 A3
          go_wp2_with fail
          go_meet
          exact ⟨by rw [HW.out]; exact HO3.out, HK3.out⟩
        · have HW : Hid (passL p = []) := by show _ = _; unfold passL; rw [if_neg hh]
          try rw [Bool.eq_false_iff.2 hh]
          go_wp2_with fail
          go_meet
          exact ⟨by rw [HW.out, List.append_nil]; exact HO.out, HK.out⟩
      case rest =>
        obtain ⟨hown, hkp⟩ := hcut
        clear HO HK c22
        have HO := Lib.hid (hown.gives hkp.b)
        clear hown hkp
        go_wp2_with fail
        go_ret
        rw [HE.out]
        exact HO.out
open Go.RowKit Go.Lib Prp Pkt Vbi Txt
theorem run_append_parts (o : Oper) (a : Act) (s x : Operand) (ho : o.op = .call { callee := .builtin .append, args := #[s, x], argTypes := #[67, 67] }) {W : World} {base C : Nat} {v : Value} {l m : List Part} {A : Option Addr} {c : Nat}
    (hs : a.eval s = v) (hx : a.eval x = .slice A m.length c) (hA : A = none → c = 0) (hown : OwnParts W base C v l) (hp : PartsAt W W.heap.size C A m) (hC : C ≤ base) (hb : base ≤ W.heap.size) (hl : l.length + m.length ≤ 1000) :
    ∃ v' W', (execOp a.eval o).run Tryz.prog W = .ok (.value v') W' ∧ OwnParts W' base C v' (l ++ m) ∧ Below base W W' := by
  obtain ⟨i0, hi, hz0, hz1, hz2⟩ := info_parts info_any
  obtain ⟨vs, h1, h2, h3⟩ := hown
  obtain ⟨ws, k1, k2, k3⟩ := hp
  have fin : ∀ (v' : Value) (W' : World), W'.ownsRow base 20 1 v' (l.length + m.length) (vs ++ ws) → Below base W W' → OwnParts W' base C v' (l ++ m) := fun v' W' ho' hb' =>
    own_add h1 k1 ho' (fun j y z => (h3 j y z).below (hb'.mono hC)) (fun j y z => (k3 j y z).below (hb'.mono hC))
  have run1 : ∀ r, (Builtin.append_ #[67, 67] o.type #[v, .slice A m.length c]).run Tryz.prog W = r → (∃ v' W', r = .ok v' W') → ∃ v' W', r = .ok v' W' ∧ (execOp a.eval o).run Tryz.prog W = .ok (.value v') W' := by
    intro r hr ⟨v', W', hv⟩
    refine ⟨v', W', hv, ?_⟩
    unfold execOp
    simp only [ho, resolve, invoke, builtin, Sem.run_bind, Sem.run_pure, Result.andThen_ok, List.map_toArray, List.map_cons, List.map_nil, hs, hx, hr, hv]
  cases A with
  | none =>
    obtain rfl := hA rfl
    have hm0 : m = [] := by
      rcases k2 with h | ⟨_, h, _⟩
      · rw [h] at k1; exact List.eq_nil_of_length_eq_zero k1.symm
      · cases h
    subst hm0
    have hws : ws = [] := List.eq_nil_of_length_eq_zero k1
    subst hws
    have e3 : (Builtin.append_ #[67, 67] o.type #[v, .slice none 0 0]).run Tryz.prog W = .ok v W := run_append_owned_none W base _ _ _ i0 1 Tryz.underlying67 hi v l.length vs h2
    obtain ⟨v', W', e1, e2⟩ := run1 _ e3 ⟨v, W, rfl⟩
    injection e1 with x1 x2
    subst x1 x2
    exact ⟨v, W, e2, fin v W (by rw [List.append_nil]; exact h2) (Below.refl _ _), Below.refl _ _⟩
  | some ad =>
    have hn : ∀ j u, ws[j]? = some u → W.cell? (ad.add j) = some u := fun j u hu => by
      obtain ⟨hj, rfl⟩ := List.getElem?_eq_some_iff.1 hu
      obtain ⟨a', ha', _, hc⟩ := k2.some_ (by omega)
      injection ha' with ha'
      subst ha'
      exact hc j hj
    have h1c : ∀ u ∈ ws, u.oneCell' = true := fun u hu => by
      obtain ⟨j, hj, rfl⟩ := List.getElem_of_mem hu
      exact (k3 j hj (by omega)).one
    obtain ⟨v', W', e, g1, g2, _⟩ := run_append_own (P := Tryz.prog) (w := W) base 67 o.type 20 i0 .nilIface 1 16 Tryz.underlying67 hi hz0 hz1 hz2 rfl (by decide) v l.length vs h2 ad m.length c ws (by omega) hn h1c (by unfold maxLen; omega) (by omega) hb
    obtain ⟨v2, W2, e1, e2⟩ := run1 _ e ⟨v', W', rfl⟩
    injection e1 with x1 x2
    subst x1 x2
    have hbl : Below base W W' := below_grown hb h2 g2
    exact ⟨v', W', e2, fin v' W' g1 hbl, hbl⟩
theorem wp_append_parts {o : Oper} {a : Act} {W : World} {K : Act → World → Prop} {Q : Exit → Act → World → Prop} (d : Nat) (s x : Operand) {base C : Nat} {v : Value} {l m : List Part} {A : Option Addr} {c : Nat} (hd : o.dst = some d)
    (ho : o.op = .call { callee := .builtin .append, args := #[s, x], argTypes := #[67, 67] })
    (hs : a.eval s = v) (hx : a.eval x = .slice A m.length c) (hA : A = none → c = 0) (hown : OwnParts W base C v l) (hp : PartsAt W W.heap.size C A m) (hC : C ≤ base) (hb : base ≤ W.heap.size) (hl : l.length + m.length ≤ 1000)
    (h : ∀ v' W', OwnParts W' base C v' (l ++ m) → Below base W W' → K (a.put (some d) v') W') : Oper.wp Tryz.prog o a W K Q := by
  obtain ⟨v', W', e, h1, h2⟩ := run_append_parts o a s x ho hs hx hA hown hp hC hb hl
  exact wp_made d v' hd e (h v' W' h1 h2)
end Go.Proofs.YtiancngpknnkaaaGreat
