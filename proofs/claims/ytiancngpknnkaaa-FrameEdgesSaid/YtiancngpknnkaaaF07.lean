/- The document's own answer: a value is taken, by its kind. -/
import Derived.Test.YtiancngpknnkaaaF00
import Derived.Test.YtiancngpknnkaaaF05
set_option maxRecDepth 100000
set_option maxHeartbeats 64000000
namespace Go.Proofs.Ytiancngpknnkaaa
open Go.RowKit Go.Lib Prp
theorem any_at {l : List P} {id : Int} {k : Nat} (hk : k < l.length) (h : l[k].id = id) : (l.any fun q => decide (q.id = id)) = true := by
 rw [List.any_eq_true]
 exact ⟨l[k], List.getElem_mem hk, decide_eq_true h⟩
theorem any_not {l : List P} {id : Int} (h : ∀ j (hj : j < l.length), l[j].id ≠ id) : (l.any fun q => decide (q.id = id)) = false := by
 rw [Bool.eq_false_iff]
 intro hc
 rw [List.any_eq_true] at hc
 obtain ⟨q, hq, he⟩ := hc
 obtain ⟨j, hj, rfl⟩ := List.getElem_of_mem hq
 exact h j hj (of_decide_eq_true he)
theorem twice_rep {place id : Int} {l : List P} (h : repB place id = true) : twiceB place id l = false := by unfold twiceB; rw [h]; rfl
theorem twice_at {place id : Int} {l : List P} {k : Nat} (h : repB place id = false) (hk : k < l.length) (he : l[k].id = id) : twiceB place id l = true := by unfold twiceB; rw [h, any_at hk he]; rfl
theorem twice_not {place id : Int} {l : List P} (h : repB place id = true ∨ ∀ j (hj : j < l.length), l[j].id ≠ id) : twiceB place id l = false := by
 rcases h with h | h
 ·exact twice_rep h
 ·unfold twiceB; rw [any_not h, Bool.and_false]
theorem mayFollow_is (place id n : Int) (s v : ByteArray) (l : List P) (A : Option Addr) (c : Nat) (b : Bool) (w : World) (hm : l.length ≤ 9223372036854775807) (h : PropsAt w w.heap.size A l) (hb : mayB place l ⟨id, n, s, v⟩ = b) :
  Calls Try.prog 66 #[.int .i64 place, .slice A l.length c, .agg #[.int .i64 id, .int .i64 n, .string s, .string v]] w fun e w' => e = .returned (.bool b) ∧ Below w.heap.size w w' := by
 have H := Lib.hid h
 unfold mayB at hb
 have HB := Lib.hid hb
 clear h hb
 obtain ⟨x, hx⟩ : ∃ x, standB place id = x := ⟨_, rfl⟩
 have HS := Lib.hid (fun W => mayStand_is place id x W hx)
 obtain ⟨y, hy⟩ : ∃ y, haveB id n = y := ⟨_, rfl⟩
 have HV := Lib.hid (fun W => mayHave_is id n y W hy)
 obtain ⟨z, hz⟩ : ∃ z, repB place id = z := ⟨_, rfl⟩
 have HR := Lib.hid (fun W => mayRepeat_is place id z W hz)
 have HZ := Lib.hid hz
 have hbb := HB.out
 simp only [hx, hy] at hbb
 have HC := Lib.hid hbb
 clear hx hy hz hbb HB
 cases x with
 | false =>
  have HT := Lib.hid HC.out
  clear HC
  go_enter Try.func66, Try.ntmps66
  go_wp2_with fail
  have HK := Lib.hid (Keep.new w 73 #[.int .i64 id, .int .i64 n, .string s, .string v])
  refine (HS.out _).mono ?_
  rintro e w1 ⟨rfl, hb1⟩
  have HK1 := Lib.hid (HK.out.below hb1)
  clear hb1 HK HS
  go_wp2_with fail
  go_ret
  exact ⟨ret_bool HT.out, HK1.out.out.2⟩
 | true =>
  cases y with
  | false =>
   have HT := Lib.hid HC.out
   clear HC
   go_enter Try.func66, Try.ntmps66
   go_wp2_with fail
   have HK := Lib.hid (Keep.new w 73 #[.int .i64 id, .int .i64 n, .string s, .string v])
   refine (HS.out _).mono ?_
   rintro e w1 ⟨rfl, hb1⟩
   have HK1 := Lib.hid (HK.out.below hb1)
   clear hb1 HK HS
   obtain ⟨c0, c1, c2, c3⟩ := HK1.out.four
   go_wp2_with (go_at_call 73; refine (HV.out _).mono ?_; rintro e w' ⟨rfl, rfl⟩)
   go_ret
   exact ⟨ret_bool HT.out, HK1.out.out.2⟩
  | true =>
   go_enter Try.func66, Try.ntmps66
   go_wp2_with fail
   have HK := Lib.hid (Keep.new w 73 #[.int .i64 id, .int .i64 n, .string s, .string v])
   refine (HS.out _).mono ?_
   rintro e w1 ⟨rfl, hb1⟩
   have HK1 := Lib.hid (HK.out.below hb1)
   clear hb1 HK HS
   obtain ⟨c0, c1, c2, c3⟩ := HK1.out.four
   obtain ⟨g, hg⟩ : ∃ g, w.heap.size = g := ⟨_, rfl⟩
   rw [hg] at c0 c1 c2 c3 HK1
   go_wp2_with (go_at_call 73; refine (HV.out _).mono ?_; rintro e w' ⟨rfl, rfl⟩)
   have HH := Lib.hid (H.out.below HK1.out.out.2)
   have HSZ := Lib.hid HK1.out.out.2.size
   clear c0 c1 c2 c3 H
   go_loopw [24] (fun i wr => ∃ k : Nat, k ≤ l.length ∧ i = .int .i64 (k : Int) ∧ Keep w g #[.int .i64 id, .int .i64 n, .string s, .string v] wr ∧ (z = true ∨ ∀ j (hj : j < l.length), j < k → l[j].id ≠ id) ∧ PropsAt wr w.heap.size A l) (fun i _ => l.length - (RowKit.intOf i).toNat)
   case atStart => exact ⟨0, Nat.zero_le _, rfl, HK1.out, .inr fun j hj hk => by omega, HH.out⟩
   case round =>
    obtain ⟨k, hk, rfl, hkeep, hne, hat⟩ := hrel
    have HN := Lib.hid hne
    have HK := Lib.hid hkeep
    have HP := Lib.hid hat
    have HL := Lib.hid hkeep.out.2.size
    clear hne hkeep hat HK1 HH
    by_cases hlt : k < l.length
    ·obtain ⟨b0, o, rfl, hb0, hc⟩ := HP.out.some_ (by omega)
     obtain ⟨d0, d1, d2, d3⟩ := hc k hlt
     clear hc
     obtain ⟨q, hq⟩ : ∃ q, l[k] = q := ⟨_, rfl⟩
     rw [hq] at d0 d1 d2 d3
     have HQ := Lib.hid hq
     clear hq
     obtain ⟨i', n', s', v'⟩ := q
     have c0 := HK.out.four.1
     have hgl : g < wr.heap.size := HK.out.out.1.lt
     have hkI : (k : Int) < (l.length : Int) := by omega
     by_cases hyx : i' = id
     ·subst hyx
      cases z with
      | true =>
       go_wp2_with (go_at_call 74; refine (HR.out _).mono ?_; rintro e w' ⟨rfl, rfl⟩)
       go_roundw
       case rel => exact ⟨k + 1, hlt, by go_num, HK.out.below ((Below.refl _ _).alloc (Nat.le_refl _) _), .inl trivial, HP.out.alloc HL.out _⟩
       case measure => simp [RowKit.intOf]; omega
      | false =>
       have HT := Lib.hid (twice_at (place := place) HZ.out hlt (by rw [HQ.out]))
       go_wp2_with (go_at_call 74; refine (HR.out _).mono ?_; rintro e w' ⟨rfl, rfl⟩)
       go_ret
       exact ⟨ret_bool (by rw [← HC.out, HT.out]; rfl), HK.out.out.2.alloc HL.out _⟩
     ·have bb := ne_false hyx
      have HYX := Lib.hid hyx
      clear hyx
      go_wp2_with fail
      go_roundw
      case rel => exact ⟨k + 1, hlt, by go_num, HK.out.below ((Below.refl _ _).alloc (Nat.le_refl _) _), HN.out.imp (fun e => e) (fun hn j hj hjk => by
       by_cases e : j = k
       ·subst e; rw [HQ.out]; exact HYX.out
       ·exact hn j hj (by omega)), HP.out.alloc HL.out _⟩
      case measure => simp [RowKit.intOf]; omega
    ·obtain rfl : k = l.length := by omega
     have HT := Lib.hid (twice_not (place := place) (HN.out.imp (fun e => HZ.out.trans e) (fun hn j hj => hn j hj hj)))
     clear HN
     go_wp2_with fail
     go_ret
     exact ⟨ret_bool (by rw [← HC.out, HT.out]; rfl), HK.out.out.2⟩
open Go.RowKit Go.Lib Prp
theorem info_prop : (Try.prog.info? 73).map (fun i => (i.zero, i.size, i.bytes)) = some (some (.agg #[.int .i64 0, .int .i64 0, .string ⟨#[]⟩, .string ⟨#[]⟩]), 4, 48) := by kernel_rfl
theorem cells_new (w : World) (T : TypeId) (cs : List Value) (j : Nat) (u : Value) (h : cs[j]? = some u) : (w.alloc (.cells cs.toArray T)).cell? ((⟨w.heap.size, 0, none⟩ : Addr).add j) = some u := by
 rw [add_new, cell_of_row (w.alloc _) w.heap.size j _ _ (0, 0) (heap_alloc_new w _)]
 simpa using h
theorem one_cells (p : P) : ∀ u ∈ pcells p, u.oneCell' = true := by
 intro u hu
 unfold pcells at hu
 simp at hu
 rcases hu with rfl | rfl | rfl | rfl <;> rfl
open Go.RowKit Go.Lib Prp Vbi
def strSz : Value → Nat
 | .string s => s.size
 | _ => 0
@[irreducible] def TA (w : World) (A : Option Addr) (c : Nat) (l : List P) (W : World) : Prop := W.ownsRow w.heap.size 73 4 (.slice A l.length c) l.length (flat l) ∧ Below w.heap.size w W
section
variable {w W W' : World} {A : Option Addr} {c : Nat} {l : List P}
theorem TA.mk (h1 : W.ownsRow w.heap.size 73 4 (.slice A l.length c) l.length (flat l)) (h2 : Below w.heap.size w W) : TA w A c l W := by unfold TA; exact ⟨h1, h2⟩
theorem TA.out (h : TA w A c l W) : W.ownsRow w.heap.size 73 4 (.slice A l.length c) l.length (flat l) ∧ Below w.heap.size w W := by unfold TA at h; exact h
theorem TA.below (h : TA w A c l W) (hb : Below W.heap.size W W') : TA w A c l W' := .mk (own_below h.out.1 hb) (h.out.2.trans (hb.mono h.out.2.size))
theorem TA.nil (w : World) : TA w none 0 [] w := .mk (World.ownsRow_nil _ _ _ _) (Below.refl _ _)
theorem TA.at (h : TA w A c l W) : PropsAt W W.heap.size A l := .of_own h.out.1
end
@[irreducible] def TB (w : World) (A : Option Addr) (c : Nat) (l : List P) (g : Nat) (cs : Array Value) (W : World) : Prop := TA w A c l W ∧ Box W g cs
section
variable {w W W' : World} {A : Option Addr} {c g : Nat} {l : List P} {cs : Array Value}
theorem TB.mk (h1 : TA w A c l W) (h2 : Box W g cs) : TB w A c l g cs W := by unfold TB; exact ⟨h1, h2⟩
theorem TB.out (h : TB w A c l g cs W) : TA w A c l W ∧ Box W g cs := by unfold TB at h; exact h
theorem TB.below (h : TB w A c l g cs W) (hb : Below W.heap.size W W') : TB w A c l g cs W' := .mk (h.out.1.below hb) (h.out.2.below hb)
theorem TB.drewN (h : TB w A c l g cs W) (n : Nat) : TB w A c l g cs (W.drewN n) := h.below (below_drewN (Below.refl _ _) n)
theorem TB.new (h : TA w A c l W) (T : TypeId) (cs : Array Value) : TB w A c l W.heap.size cs (W.alloc (.cells cs T)) := .mk (h.below ((Below.refl _ _).alloc (Nat.le_refl _) _)) (.new W T cs)
end
theorem TB.four {w W : World} {A : Option Addr} {c g : Nat} {l : List P} {a b : Int} {s v : ByteArray} (h : TB w A c l g #[.int .i64 a, .int .i64 b, .string s, .string v] W) :
  W.cell? ⟨g, 0, none⟩ = some (.int .i64 a) ∧ W.cell? ⟨g, 1, none⟩ = some (.int .i64 b) ∧ W.cell? ⟨g, 2, none⟩ = some (.string s) ∧ W.cell? ⟨g, 3, none⟩ = some (.string v) :=
 ⟨h.out.2.cell 0, h.out.2.cell 1, h.out.2.cell 2, h.out.2.cell 3⟩
def GivesAll (l : List P) (E : Int) (w : World) (e : Ending) (w' : World) : Prop := ∃ A c, e = .returned (.tuple #[.slice A l.length c, .int .i64 E]) ∧ TA w A c l w'
theorem takeAll_is (place : Int) (s : ByteArray) (f0 : Nat) (L : List P) (E : Int) (w : World) (hs : s.size ≤ 281474976710656) (hf : s.size < f0) (h : ta place f0 [] s = (L, E)) :
  Calls Try.prog 62 #[.int .i64 place, .string s] w (GivesAll L E w) := by
 obtain ⟨i0, hi, hz0, hz1, hz2⟩ := info_parts info_prop
 have H := Lib.hid h
 clear h
 go_enter Try.func62, Try.ntmps62
 go_wp2_with fail
 go_loopw [1, 6] (fun x m wr => ∃ (S : ByteArray) (l : List P) (f : Nat) (A : Option Addr) (c : Nat), x = .string S ∧ m = .slice A l.length c ∧ TA w A c l wr ∧ l.length ≤ 8 ∧ S.size ≤ 281474976710656 ∧ S.size < f ∧ ta place f l S = (L, E)) (fun x _ _ => strSz x)
 case atStart => exact ⟨s, [], f0, none, 0, rfl, rfl, .nil w, by simp, hs, hf, H.out⟩
 case round =>
  obtain ⟨S, l, f, A, c, rfl, rfl, hta, hl8, hS, hSf, hgo⟩ := hrel
  have HT := Lib.hid hta
  have HG := Lib.hid hgo
  clear hta hgo H
  obtain ⟨f, rfl⟩ : ∃ f0, f = f0 + 1 := ⟨f - 1, by omega⟩
  by_cases h0 : S.size = 0
  ·obtain ⟨rfl, rfl⟩ : l = L ∧ (0 : Int) = E := by
    have := (ta_end (place := place) (f := f) (l := l) h0).symm.trans HG.out
    injection this with e1 e2
    exact ⟨e1, e2⟩
   obtain rfl : S = ByteArray.empty := ByteArray.size_eq_zero_iff.1 h0
   go_wp2_with fail
   go_ret2
   exact ⟨A, c, rfl, HT.out⟩
  have hSI : (0 : Int) < (S.size : Int) := by omega
  obtain ⟨⟨i, n, a, b⟩, K, T, ht⟩ : ∃ p K T, tone S = (p, K, T) := ⟨_, _, _, rfl⟩
  have HO := Lib.hid (fun W => takeOne_is S a b i n K T W (by omega) hS ht)
  have HTO := Lib.hid ht
  clear ht
  go_wp2_with fail
  refine (HO.out _).mono ?_
  rintro e w1 ⟨rfl, hb1⟩
  have HT1 := Lib.hid (HT.out.below hb1)
  clear hb1 HT HO
  by_cases hT : T = 0
  ·subst hT
   have HTB := Lib.hid (TB.new HT1.out 73 #[.int .i64 i, .int .i64 n, .string a, .string b])
   clear HT1
   obtain ⟨j, rfl, hj1, hj2⟩ : ∃ j : Nat, K = (j : Int) ∧ 1 ≤ j ∧ j ≤ S.size := by
    have := tone_bound (s := S) (by omega) (by rw [HTO.out])
    rw [HTO.out] at this
    have h1 : 1 ≤ K := this.1
    have h2 : K ≤ (S.size : Int) := this.2
    exact ⟨K.toNat, by omega, by omega, by omega⟩
   obtain ⟨y, hy⟩ : ∃ y, mayB place l ⟨i, n, a, b⟩ = y := ⟨_, rfl⟩
   have HM := Lib.hid (fun (W : World) (g : Nat) (h : TB w A c l g #[.int .i64 i, .int .i64 n, .string a, .string b] W) => mayFollow_is place i n a b l A c y W (by omega) h.out.1.at hy)
   have HY := Lib.hid hy
   clear hy
   have hjS : (j : Int) ≤ (S.size : Int) := by omega
   have hj0 : (0 : Int) ≤ (j : Int) := by omega
   have HTB2 := HTB.out
   obtain ⟨g, hg⟩ : ∃ g, w1.heap.size = g := ⟨_, rfl⟩
   rw [hg] at HTB2
   clear HTB
   have HTB := Lib.hid HTB2
   clear HTB2
   go_wp2_with fail
   refine (HM.out _ g HTB.out).mono ?_
   rintro e w2 ⟨rfl, hb2⟩
   have HT2 := Lib.hid (HTB.out.below hb2)
   clear hb2 HTB HM hg
   cases y with
   | false =>
    obtain ⟨rfl, rfl⟩ : [] = L ∧ (9 : Int) = E := by
     have := (ta_no (place := place) (f := f) (l := l) h0 (by rw [HTO.out]) (by rw [HTO.out]; exact HY.out)).symm.trans HG.out
     injection this with e1 e2
     exact ⟨e1, e2⟩
    clear HG HTO HY
    go_wp2_with fail
    go_ret2
    exact ⟨none, 0, rfl, .mk (World.ownsRow_nil _ _ _ _) HT2.out.out.1.out.2⟩
   | true =>
    by_cases h8 : l.length = 8
    ·obtain ⟨rfl, rfl⟩ : [] = L ∧ (2 : Int) = E := by
      have := (ta_full (place := place) (f := f) (l := l) h0 (by rw [HTO.out]) (by rw [HTO.out]; exact HY.out) h8).symm.trans HG.out
      injection this with e1 e2
      exact ⟨e1, e2⟩
     have h8I : (l.length : Int) = 8 := by omega
     clear HG HTO HY
     go_wp2_with fail
     go_ret2
     exact ⟨none, 0, rfl, .mk (World.ownsRow_nil _ _ _ _) HT2.out.out.1.out.2⟩
    ·have HG2 : Hid (ta place f (l ++ [⟨i, n, a, b⟩]) (S.extract j S.size) = (L, E)) := by
      have := (ta_step (place := place) (f := f) (l := l) h0 (by rw [HTO.out]) (by rw [HTO.out]; exact HY.out) h8).symm.trans HG.out
      rw [HTO.out] at this
      exact this
     have h8b : ((l.length : Int) == 8) = false := ne_false (by omega)
     obtain ⟨c0, c1, c2, c3⟩ := HT2.out.four
     have HS : Hid (flat (l ++ [⟨i, n, a, b⟩]) = flat l ++ pcells ⟨i, n, a, b⟩) := flat_snoc _ _
     clear HG HTO HY
     go_wp2_with (at_builtin; refine wpList_append_own _ rfl _ _ 41 rfl w.heap.size 73 i0 (.agg #[.int .i64 0, .int .i64 0, .string ⟨#[]⟩, .string ⟨#[]⟩]) 4 48 Try.underlying41 hi hz0 hz1 hz2 rfl (by decide) _ _ _ rfl (HT2.out.out.1.out.1.alloc _) ⟨w2.heap.size, 0, none⟩ 1 1 (pcells ⟨i, n, a, b⟩) rfl rfl ?c1 ?c2 ?c3 ?c4 ?c5 ?_)
     case c1 => exact fun j u h => cells_new w2 _ (pcells ⟨i, n, a, b⟩) j u h
     case c2 => exact one_cells _
     case c3 => unfold maxLen; omega
     case c4 => first | omega | (have := HT2.out.out.1.out.2.size; simp; omega)
     case c5 => have := HT2.out.out.1.out.2.size; simp; omega
     intro v' w3 hown' hgrow _
     have hnx := HT2.out.out.1.out.2.trans (below_alloc_grown HT2.out.out.1.out.2.size HT2.out.out.1.out.1 hgrow)
     have hown2 : w3.ownsRow w.heap.size 73 4 v' (l ++ [(⟨i, n, a, b⟩ : P)]).length (flat (l ++ [⟨i, n, a, b⟩])) := by
      rw [HS.out, List.length_append]; exact hown'
     obtain ⟨A', c', rfl⟩ := own_slice hown2
     have HT3 := Lib.hid (TA.mk hown2 hnx)
     clear hown' hgrow hnx hown2 HT2 HS c0 c1 c2 c3
     go_wp2_with fail
     go_roundw
     case rel => exact ⟨_, _, f, A', c', rfl, rfl, HT3.out, by rw [List.length_append]; show _ + 1 ≤ 8; omega, by rw [ByteArray.size_extract]; omega, by rw [ByteArray.size_extract]; omega, HG2.out⟩
     case measure => show (S.extract j S.size).size < S.size; rw [ByteArray.size_extract]; omega
  ·obtain ⟨rfl, rfl⟩ : [] = L ∧ T = E := by
    have := (ta_bad (place := place) (f := f) (l := l) h0 (by rw [HTO.out]; exact hT)).symm.trans HG.out
    rw [HTO.out] at this
    injection this with e1 e2
    exact ⟨e1, e2⟩
   have hTb := ne_true hT
   clear HG HTO
   go_wp2_with fail
   go_ret2
   exact ⟨none, 0, rfl, .mk (World.ownsRow_nil _ _ _ _) (HT1.out.below ((Below.refl _ _).alloc (Nat.le_refl _) _)).out.2⟩
open Go.RowKit Go.Lib Prp Vbi
def GivesTake (L : List P) (K E : Int) (w : World) (e : Ending) (w' : World) : Prop := ∃ A c, e = .returned (.tuple #[.slice A L.length c, .int .i64 K, .int .i64 E]) ∧ TA w A c L w'
theorem Take_is (place : Int) (s : ByteArray) (L : List P) (K E : Int) (w : World) (hs : s.size ≤ 281474976710656) (h : takeP place s = (L, K, E)) :
  Calls Try.prog 56 #[.int .i64 place, .string s] w (GivesTake L K E w) := by
 obtain ⟨x, hx⟩ : ∃ x, placeB place = x := ⟨_, rfl⟩
 have HP := Lib.hid (fun W => isPlace_is place x W hx)
 cases x with
 | false =>
  rw [takeP_place s hx] at h
  obtain ⟨rfl, rfl, rfl⟩ : [] = L ∧ 0 = K ∧ 1 = E := by
   injection h with h1 h2
   injection h2 with h2 h3
   exact ⟨h1, h2, h3⟩
  clear hx h
  go_enter Try.func56, Try.ntmps56
  go_wp2_with (go_at_call 61; refine (HP.out _).mono ?_; rintro e w' ⟨rfl, rfl⟩)
  go_ret3
  exact ⟨none, 0, rfl, .nil w⟩
 | true =>
  rcases takeP_cases s hx with ⟨E', ht, hE, e⟩ | ⟨m, q, ht, hq, hm, h7, e⟩ | ⟨m, q, E', ht, hq, hm, h7, hta, hE, e⟩ | ⟨m, q, L', ht, hq, hm, h7, hta, e⟩
  ·rw [e] at h
   obtain ⟨rfl, rfl, rfl⟩ : [] = L ∧ 0 = K ∧ E' = E := by
    injection h with h1 h2
    injection h2 with h2 h3
    exact ⟨h1, h2, h3⟩
   have HT := Lib.hid (fun W => TakeNum_z s 0 0 E' W (by omega) ht)
   have hEb := ne_true hE
   clear hx h e ht hE
   go_enter Try.func56, Try.ntmps56
   go_wp2_with (first | (go_at_call 61; refine (HP.out _).mono ?_; rintro e w' ⟨rfl, rfl⟩) | (go_at_call 26; refine (HT.out _).mono ?_; rintro e w' ⟨rfl, rfl⟩))
   go_ret3
   exact ⟨none, 0, rfl, .nil w⟩
  ·rw [e] at h
   obtain ⟨rfl, rfl, rfl⟩ : [] = L ∧ 0 = K ∧ 7 = E := by
    injection h with h1 h2
    injection h2 with h2 h3
    exact ⟨h1, h2, h3⟩
   have HT := Lib.hid (fun W => TakeNum_z s (m : Int) (q : Int) 0 W (by omega) ht)
   have hlt : (s.size : Int) - (q : Int) < (m : Int) := by omega
   clear hx h e ht
   go_enter Try.func56, Try.ntmps56
   go_wp2_with (first | (go_at_call 61; refine (HP.out _).mono ?_; rintro e w' ⟨rfl, rfl⟩) | (go_at_call 26; refine (HT.out _).mono ?_; rintro e w' ⟨rfl, rfl⟩))
   go_ret3
   exact ⟨none, 0, rfl, .nil w⟩
  ·rw [e] at h
   obtain ⟨rfl, rfl, rfl⟩ : [] = L ∧ 0 = K ∧ E' = E := by
    injection h with h1 h2
    injection h2 with h2 h3
    exact ⟨h1, h2, h3⟩
   have HT := Lib.hid (fun W => TakeNum_z s (m : Int) (q : Int) 0 W (by omega) ht)
   have HA := Lib.hid (fun W => takeAll_is place (s.extract q (q + m)) (s.size + 1) [] E' W (by rw [ByteArray.size_extract]; omega) (by rw [ByteArray.size_extract]; omega) hta)
   have hlt : ¬ (s.size : Int) - (q : Int) < (m : Int) := by omega
   have hdl : decide ((s.size : Int) - (q : Int) < (m : Int)) = false := decide_eq_false hlt
   have hq0 : (0 : Int) ≤ (q : Int) := by omega
   have hqm : (q : Int) ≤ (q : Int) + (m : Int) := by omega
   have hqs : (q : Int) + (m : Int) ≤ (s.size : Int) := by omega
   have htn : ((q : Int) + (m : Int)).toNat = q + m := by omega
   have hEb := ne_true hE
   clear hx h e ht hta hE
   go_enter Try.func56, Try.ntmps56
   go_wp2_with (first | (go_at_call 61; refine (HP.out _).mono ?_; rintro e w' ⟨rfl, rfl⟩) | (go_at_call 26; refine (HT.out _).mono ?_; rintro e w' ⟨rfl, rfl⟩))
   refine (HA.out _).mono ?_
   rintro e w1 ⟨A, c, rfl, hta⟩
   have HTA := Lib.hid hta
   clear hta HA HT HP
   go_wp2_with fail
   go_ret3
   exact ⟨none, 0, rfl, .mk (World.ownsRow_nil _ _ _ _) HTA.out.out.2⟩
  ·rw [e] at h
   obtain ⟨rfl, rfl, rfl⟩ : L' = L ∧ (q : Int) + (m : Int) = K ∧ 0 = E := by
    injection h with h1 h2
    injection h2 with h2 h3
    exact ⟨h1, h2, h3⟩
   have HT := Lib.hid (fun W => TakeNum_z s (m : Int) (q : Int) 0 W (by omega) ht)
   have HA := Lib.hid (fun W => takeAll_is place (s.extract q (q + m)) (s.size + 1) L' 0 W (by rw [ByteArray.size_extract]; omega) (by rw [ByteArray.size_extract]; omega) hta)
   have hlt : ¬ (s.size : Int) - (q : Int) < (m : Int) := by omega
   have hdl : decide ((s.size : Int) - (q : Int) < (m : Int)) = false := decide_eq_false hlt
   have hq0 : (0 : Int) ≤ (q : Int) := by omega
   have hqm : (q : Int) ≤ (q : Int) + (m : Int) := by omega
   have hqs : (q : Int) + (m : Int) ≤ (s.size : Int) := by omega
   have htn : ((q : Int) + (m : Int)).toNat = q + m := by omega
   clear hx h e ht hta
   go_enter Try.func56, Try.ntmps56
   go_wp2_with (first | (go_at_call 61; refine (HP.out _).mono ?_; rintro e w' ⟨rfl, rfl⟩) | (go_at_call 26; refine (HT.out _).mono ?_; rintro e w' ⟨rfl, rfl⟩))
   refine (HA.out _).mono ?_
   rintro e w1 ⟨A, c, rfl, hta⟩
   have HTA := Lib.hid hta
   clear hta HA HT HP
   go_wp2_with fail
   go_ret3
   exact ⟨A, c, rfl, HTA.out⟩
open Go.RowKit Go.Lib Prp Vbi
theorem one_size (id n : Int) (s v : ByteArray) (hk0 : kindZ id ≠ 0) (hb : valB (kindZ id) ⟨id, n, s, v⟩ = true) : (oneStr ⟨id, n, s, v⟩).size ≤ 2053 := by
 have hr := kind_range id
 rw [val_put _ id n s v hr.1 hr.2 hk0, Bool.and_eq_true] at hb
 have := val_size (id := id) hr.1 hr.2 hk0 hb.1
 unfold oneStr
 rw [ByteArray.size_append, strOfNums_size]
 show 1 + (valStr (kindZ id) _).size ≤ _
 omega
open Go.RowKit Go.Lib Prp
@[irreducible] def RSt (w : World) (A : Option Addr) (l : List P) (W : World) : Prop := PropsAt W w.heap.size A l ∧ Below w.heap.size w W
section
variable {w W W' : World} {A : Option Addr} {l : List P}
theorem RSt.mk (h1 : PropsAt W w.heap.size A l) (h2 : Below w.heap.size w W) : RSt w A l W := by unfold RSt; exact ⟨h1, h2⟩
theorem RSt.out (h : RSt w A l W) : PropsAt W w.heap.size A l ∧ Below w.heap.size w W := by unfold RSt at h; exact h
theorem RSt.below (h : RSt w A l W) (hb : Below W.heap.size W W') : RSt w A l W' := .mk (h.out.1.below (hb.mono h.out.2.size)) (h.out.2.trans (hb.mono h.out.2.size))
theorem RSt.drewN (h : RSt w A l W) (n : Nat) : RSt w A l (W.drewN n) := h.below (below_drewN (Below.refl _ _) n)
theorem RSt.cells {b o : Nat} (h : RSt w (some ⟨b, o, none⟩) l W) (k : Nat) (hk : k < l.length) : PAt W b (o + k * 4) l[k] := by
 obtain ⟨b', o', e, _, hc⟩ := h.out.1.some_ (by omega)
 injection e with e
 injection e with e1 e2
 subst e1 e2
 exact hc k hk
end
open Go.RowKit Go.Lib Prp Vbi
@[irreducible] def RStP (w : World) (A : Option Addr) (l : List P) (g : Nat) (cs : Array Value) (W : World) : Prop := RSt w A l W ∧ Box W g cs
section
variable {w W W' : World} {A : Option Addr} {l : List P} {g : Nat} {cs : Array Value}
theorem RStP.mk (h1 : RSt w A l W) (h2 : Box W g cs) : RStP w A l g cs W := by unfold RStP; exact ⟨h1, h2⟩
theorem RStP.out (h : RStP w A l g cs W) : RSt w A l W ∧ Box W g cs := by unfold RStP at h; exact h
theorem RStP.below (h : RStP w A l g cs W) (hb : Below W.heap.size W W') : RStP w A l g cs W' := .mk (h.out.1.below hb) (h.out.2.below hb)
theorem RStP.drewN (h : RStP w A l g cs W) (n : Nat) : RStP w A l g cs (W.drewN n) := h.below (below_drewN (Below.refl _ _) n)
theorem RSt.alloc (h : RSt w A l W) (o : Obj) : RSt w A l (W.alloc o) := h.below ((Below.refl _ _).alloc (Nat.le_refl _) o)
theorem RStP.alloc (h : RStP w A l g cs W) (o : Obj) : RStP w A l g cs (W.alloc o) := h.below ((Below.refl _ _).alloc (Nat.le_refl _) o)
theorem RStP.new (h : RSt w A l W) (T : TypeId) : RStP w A l W.heap.size cs (W.alloc (.cells cs T)) := .mk (h.alloc _) (.new W T cs)
end
theorem RStP.four {w W : World} {A : Option Addr} {l : List P} {g : Nat} {x y : Int} {s v : ByteArray} (h : RStP w A l g #[.int .i64 x, .int .i64 y, .string s, .string v] W) :
  W.cell? ⟨g, 0, none⟩ = some (.int .i64 x) ∧ W.cell? ⟨g, 1, none⟩ = some (.int .i64 y) ∧ W.cell? ⟨g, 2, none⟩ = some (.string s) ∧ W.cell? ⟨g, 3, none⟩ = some (.string v) :=
 ⟨h.out.2.cell 0, h.out.2.cell 1, h.out.2.cell 2, h.out.2.cell 3⟩
open Go.RowKit Go.Lib Prp Vbi
@[irreducible] def Two (w : World) (g : Nat) (cs : Array Value) (k : Nat) (ds : Array Value) (W : World) : Prop := Box W g cs ∧ Box W k ds ∧ g ≠ k ∧ w.heap.size ≤ g ∧ w.heap.size ≤ k ∧ Below w.heap.size w W
section
variable {w W W' : World} {g k : Nat} {cs ds : Array Value}
theorem Two.out (h : Two w g cs k ds W) : Box W g cs ∧ Box W k ds ∧ g ≠ k ∧ w.heap.size ≤ g ∧ w.heap.size ≤ k ∧ Below w.heap.size w W := by unfold Two at h; exact h
theorem Two.mk (h : Box W g cs ∧ Box W k ds ∧ g ≠ k ∧ w.heap.size ≤ g ∧ w.heap.size ≤ k ∧ Below w.heap.size w W) : Two w g cs k ds W := by unfold Two; exact h
theorem Two.new (w : World) (T U : TypeId) (cs ds : Array Value) : Two w w.heap.size cs (w.heap.size + 1) ds ((w.alloc (.cells cs T)).alloc (.cells ds U)) := by
 have e : (w.alloc (.cells cs T)).heap.size = w.heap.size + 1 := by simp
 have h2 := Box.new (w.alloc (.cells cs T)) U ds
 rw [e] at h2
 exact .mk ⟨(Box.new w T cs).alloc _, h2, by omega, Nat.le_refl _, by omega, (((Below.refl _ _).alloc (Nat.le_refl _) _).alloc (by simp) _)⟩
theorem Two.below (h : Two w g cs k ds W) (hb : Below W.heap.size W W') : Two w g cs k ds W' :=
 .mk ⟨h.out.1.below hb, h.out.2.1.below hb, h.out.2.2.1, h.out.2.2.2.1, h.out.2.2.2.2.1, h.out.2.2.2.2.2.trans (hb.mono h.out.2.2.2.2.2.size)⟩
theorem Two.alloc (h : Two w g cs k ds W) (o : Obj) : Two w g cs k ds (W.alloc o) := h.below ((Below.refl _ _).alloc (Nat.le_refl _) _)
theorem Two.drew (h : Two w g cs k ds W) : Two w g cs k ds W.drew := h.below (below_drewN (Below.refl _ _) 1)
theorem Two.cell (h : Two w g cs k ds W) (i : Nat) : W.cell? ⟨g, i, none⟩ = cs[i]? := h.out.1.cell i
theorem Two.frozen (h : Two w g cs k ds W) (i : Nat) : W.frozen? ⟨g, i, none⟩ = false := h.out.1.frozen i
end
end Go.Proofs.Ytiancngpknnkaaa
