/- Package prop: the bytes of properties at a place. -/
import Derived.Test.YtdbbcfohjkgdcaaGreatM00
import Derived.Test.YtdbbcfohjkgdcaaGreatM08
set_option maxRecDepth 100000
set_option maxHeartbeats 64000000
namespace Go.Proofs.YtdbbcfohjkgdcaaGreat
open Go.RowKit Go.Lib Prp Vbi
def strSz : Value → Nat
 | .string s => s.size
 | _ => 0
@[irreducible] def TA (w : World) (A : Option Addr) (c : Nat) (l : List P) (W : World) : Prop := W.ownsRow w.heap.size 99 4 (.slice A l.length c) l.length (flat l) ∧ Below w.heap.size w W
section
variable {w W W' : World} {A : Option Addr} {c : Nat} {l : List P}
theorem TA.mk (h1 : W.ownsRow w.heap.size 99 4 (.slice A l.length c) l.length (flat l)) (h2 : Below w.heap.size w W) : TA w A c l W := by unfold TA; exact ⟨h1, h2⟩
theorem TA.out (h : TA w A c l W) : W.ownsRow w.heap.size 99 4 (.slice A l.length c) l.length (flat l) ∧ Below w.heap.size w W := by unfold TA at h; exact h
theorem TA.below (h : TA w A c l W) (hb : Below W.heap.size W W') : TA w A c l W' := .mk (own_below h.out.1 hb) (h.out.2.trans (hb.mono h.out.2.size))
theorem TA.nil (w : World) : TA w none 0 [] w := .mk (World.ownsRow_nil _ _ _ _) (Below.refl _ _)
theorem TA.at (h : TA w A c l W) : PropsAt W W.heap.size A l := .of_own h.out.1
end
@[irreducible] def TB (w : World) (A : Option Addr) (c : Nat) (l : List P) (g : Nat) (cs : Array Value) (W : World) : Prop := TA w A c l W ∧ Box W g cs
section
variable {w W W' : World} {A : Option Addr} {c g : Nat} {l : List P} {cs : Array Value}
theorem TB.mk (h1 : TA w A c l W) (h2 : Box W g cs) : TB w A c l g cs W := by unfold TB; exact ⟨h1, h2⟩
theorem TB.out (h : TB w A c l g cs W) : TA w A c l W ∧ Box W g cs := by unfold TB at h; exact h
theorem TB.below (h : TB w A c l g cs W) (hb : Below W.heap.size W W') : TB w A c l g cs W' := .mk (h.out.1.below hb) (h.out.2.below hb)
theorem TB.drewN (h : TB w A c l g cs W) (n : Nat) : TB w A c l g cs (W.drewN n) := h.below (below_drewN (Below.refl _ _) n)
theorem TB.new (h : TA w A c l W) (T : TypeId) (cs : Array Value) : TB w A c l W.heap.size cs (W.alloc (.cells cs T)) := .mk (h.below ((Below.refl _ _).alloc (Nat.le_refl _) _)) (.new W T cs)
end
theorem TB.four {w W : World} {A : Option Addr} {c g : Nat} {l : List P} {a b : Int} {s v : ByteArray} (h : TB w A c l g #[.int .i64 a, .int .i64 b, .string s, .string v] W) :
  W.cell? ⟨g, 0, none⟩ = some (.int .i64 a) ∧ W.cell? ⟨g, 1, none⟩ = some (.int .i64 b) ∧ W.cell? ⟨g, 2, none⟩ = some (.string s) ∧ W.cell? ⟨g, 3, none⟩ = some (.string v) :=
 ⟨h.out.2.cell 0, h.out.2.cell 1, h.out.2.cell 2, h.out.2.cell 3⟩
def GivesAll (l : List P) (E : Int) (w : World) (e : Ending) (w' : World) : Prop := ∃ A c, e = .returned (.tuple #[.slice A l.length c, .int .i64 E]) ∧ TA w A c l w'
theorem takeAll_is (place : Int) (s : ByteArray) (f0 : Nat) (L : List P) (E : Int) (w : World) (hs : s.size ≤ 281474976710656) (hf : s.size < f0) (h : ta place f0 [] s = (L, E)) :
  Calls Tryz.prog 164 #[.int .i64 place, .string s] w (GivesAll L E w) := by
 obtain ⟨i0, hi, hz0, hz1, hz2⟩ := info_parts info_prop
 have H := Lib.hid h
 clear h
 go_enter Tryz.func164, Tryz.ntmps164
 go_wp2_with fail
 go_loopw [1, 6] (fun x m wr => ∃ (S : ByteArray) (l : List P) (f : Nat) (A : Option Addr) (c : Nat), x = .string S ∧ m = .slice A l.length c ∧ TA w A c l wr ∧ l.length ≤ 8 ∧ S.size ≤ 281474976710656 ∧ S.size < f ∧ ta place f l S = (L, E)) (fun x _ _ => strSz x)
 case atStart => exact ⟨s, [], f0, none, 0, rfl, rfl, .nil w, by simp, hs, hf, H.out⟩
 case round =>
  obtain ⟨S, l, f, A, c, rfl, rfl, hta, hl8, hS, hSf, hgo⟩ := hrel
  have HT := Lib.hid hta
  have HG := Lib.hid hgo
  clear hta hgo H
  obtain ⟨f, rfl⟩ : ∃ f0, f = f0 + 1 := ⟨f - 1, by omega⟩
  by_cases h0 : S.size = 0
  ·obtain ⟨rfl, rfl⟩ : l = L ∧ (0 : Int) = E := by
    have := (ta_end (place := place) (f := f) (l := l) h0).symm.trans HG.out
    injection this with e1 e2
    exact ⟨e1, e2⟩
   obtain rfl : S = ByteArray.empty := ByteArray.size_eq_zero_iff.1 h0
   go_wp2_with fail
   go_ret2
   exact ⟨A, c, rfl, HT.out⟩
  have hSI : (0 : Int) < (S.size : Int) := by omega
  obtain ⟨⟨i, n, a, b⟩, K, T, ht⟩ : ∃ p K T, tone S = (p, K, T) := ⟨_, _, _, rfl⟩
  have HO := Lib.hid (fun W => takeOne_is S a b i n K T W (by omega) hS ht)
  have HTO := Lib.hid ht
  clear ht
  go_wp2_with fail
  refine (HO.out _).mono ?_
  rintro e w1 ⟨rfl, hb1⟩
  have HT1 := Lib.hid (HT.out.below hb1)
  clear hb1 HT HO
  by_cases hT : T = 0
  ·subst hT
   have HTB := Lib.hid (TB.new HT1.out 99 #[.int .i64 i, .int .i64 n, .string a, .string b])
   clear HT1
   obtain ⟨j, rfl, hj1, hj2⟩ : ∃ j : Nat, K = (j : Int) ∧ 1 ≤ j ∧ j ≤ S.size := by
    have := tone_bound (s := S) (by omega) (by rw [HTO.out])
    rw [HTO.out] at this
    have h1 : 1 ≤ K := this.1
    have h2 : K ≤ (S.size : Int) := this.2
    exact ⟨K.toNat, by omega, by omega, by omega⟩
   obtain ⟨y, hy⟩ : ∃ y, mayB place l ⟨i, n, a, b⟩ = y := ⟨_, rfl⟩
   have HM := Lib.hid (fun (W : World) (g : Nat) (h : TB w A c l g #[.int .i64 i, .int .i64 n, .string a, .string b] W) => mayFollow_is place i n a b l A c y W (by omega) h.out.1.at hy)
   have HY := Lib.hid hy
   clear hy
   have hjS : (j : Int) ≤ (S.size : Int) := by omega
   have hj0 : (0 : Int) ≤ (j : Int) := by omega
   have HTB2 := HTB.out
   obtain ⟨g, hg⟩ : ∃ g, w1.heap.size = g := ⟨_, rfl⟩
   rw [hg] at HTB2
   clear HTB
   have HTB := Lib.hid HTB2
   clear HTB2
   go_wp2_with fail
   refine (HM.out _ g HTB.out).mono ?_
   rintro e w2 ⟨rfl, hb2⟩
   have HT2 := Lib.hid (HTB.out.below hb2)
   clear hb2 HTB HM hg
   cases y with
   | false =>
    obtain ⟨rfl, rfl⟩ : [] = L ∧ (9 : Int) = E := by
     have := (ta_no (place := place) (f := f) (l := l) h0 (by rw [HTO.out]) (by rw [HTO.out]; exact HY.out)).symm.trans HG.out
     injection this with e1 e2
     exact ⟨e1, e2⟩
    clear HG HTO HY
    go_wp2_with fail
    go_ret2
    exact ⟨none, 0, rfl, .mk (World.ownsRow_nil _ _ _ _) HT2.out.out.1.out.2⟩
   | true =>
    by_cases h8 : l.length = 8
    ·obtain ⟨rfl, rfl⟩ : [] = L ∧ (2 : Int) = E := by
      have := (ta_full (place := place) (f := f) (l := l) h0 (by rw [HTO.out]) (by rw [HTO.out]; exact HY.out) h8).symm.trans HG.out
      injection this with e1 e2
      exact ⟨e1, e2⟩
     have h8I : (l.length : Int) = 8 := by omega
     clear HG HTO HY
     go_wp2_with fail
     go_ret2
     exact ⟨none, 0, rfl, .mk (World.ownsRow_nil _ _ _ _) HT2.out.out.1.out.2⟩
    ·have HG2 : Hid (ta place f (l ++ [⟨i, n, a, b⟩]) (S.extract j S.size) = (L, E)) := by
      have := (ta_step (place := place) (f := f) (l := l) h0 (by rw [HTO.out]) (by rw [HTO.out]; exact HY.out) h8).symm.trans HG.out
      rw [HTO.out] at this
      exact this
     have h8b : ((l.length : Int) == 8) = false := ne_false (by omega)
     obtain ⟨c0, c1, c2, c3⟩ := HT2.out.four
     have HS : Hid (flat (l ++ [⟨i, n, a, b⟩]) = flat l ++ pcells ⟨i, n, a, b⟩) := flat_snoc _ _
     clear HG HTO HY
     go_wp2_with (at_builtin; refine wpList_append_own _ rfl _ _ 26 rfl w.heap.size 99 i0 (.agg #[.int .i64 0, .int .i64 0, .string ⟨#[]⟩, .string ⟨#[]⟩]) 4 48 Tryz.underlying26 hi hz0 hz1 hz2 rfl (by decide) _ _ _ rfl (HT2.out.out.1.out.1.alloc _) ⟨w2.heap.size, 0, none⟩ 1 1 (pcells ⟨i, n, a, b⟩) rfl rfl ?c1 ?c2 ?c3 ?c4 ?c5 ?_)
     case c1 => exact fun j u h => cells_new w2 _ (pcells ⟨i, n, a, b⟩) j u h
     case c2 => exact one_cells _
     case c3 => unfold maxLen; omega
     case c4 => first | omega | (have := HT2.out.out.1.out.2.size; simp; omega)
     case c5 => have := HT2.out.out.1.out.2.size; simp; omega
     intro v' w3 hown' hgrow _
     have hnx := HT2.out.out.1.out.2.trans (below_alloc_grown HT2.out.out.1.out.2.size HT2.out.out.1.out.1 hgrow)
     have hown2 : w3.ownsRow w.heap.size 99 4 v' (l ++ [(⟨i, n, a, b⟩ : P)]).length (flat (l ++ [⟨i, n, a, b⟩])) := by
      rw [HS.out, List.length_append]; exact hown'
     obtain ⟨A', c', rfl⟩ := own_slice hown2
     have HT3 := Lib.hid (TA.mk hown2 hnx)
     clear hown' hgrow hnx hown2 HT2 HS c0 c1 c2 c3
     go_wp2_with fail
     go_roundw
     case rel => exact ⟨_, _, f, A', c', rfl, rfl, HT3.out, by rw [List.length_append]; show _ + 1 ≤ 8; omega, by rw [ByteArray.size_extract]; omega, by rw [ByteArray.size_extract]; omega, HG2.out⟩
     case measure => show (S.extract j S.size).size < S.size; rw [ByteArray.size_extract]; omega
  ·obtain ⟨rfl, rfl⟩ : [] = L ∧ T = E := by
    have := (ta_bad (place := place) (f := f) (l := l) h0 (by rw [HTO.out]; exact hT)).symm.trans HG.out
    rw [HTO.out] at this
    injection this with e1 e2
    exact ⟨e1, e2⟩
   have hTb := ne_true hT
   clear HG HTO
   go_wp2_with fail
   go_ret2
   exact ⟨none, 0, rfl, .mk (World.ownsRow_nil _ _ _ _) (HT1.out.below ((Below.refl _ _).alloc (Nat.le_refl _) _)).out.2⟩
open Go.RowKit Go.Lib Prp Vbi
def GivesTake (L : List P) (K E : Int) (w : World) (e : Ending) (w' : World) : Prop := ∃ A c, e = .returned (.tuple #[.slice A L.length c, .int .i64 K, .int .i64 E]) ∧ TA w A c L w'
theorem Take_is (place : Int) (s : ByteArray) (L : List P) (K E : Int) (w : World) (hs : s.size ≤ 281474976710656) (h : takeP place s = (L, K, E)) :
  Calls Tryz.prog 152 #[.int .i64 place, .string s] w (GivesTake L K E w) := by
 obtain ⟨x, hx⟩ : ∃ x, placeB place = x := ⟨_, rfl⟩
 have HP := Lib.hid (fun W => isPlace_is place x W hx)
 cases x with
 | false =>
  rw [takeP_place s hx] at h
  obtain ⟨rfl, rfl, rfl⟩ : [] = L ∧ 0 = K ∧ 1 = E := by
   injection h with h1 h2
   injection h2 with h2 h3
   exact ⟨h1, h2, h3⟩
  clear hx h
  go_enter Tryz.func152, Tryz.ntmps152
  go_wp2_with (go_at_call 111; refine (HP.out _).mono ?_; rintro e w' ⟨rfl, rfl⟩)
  go_ret3
  exact ⟨none, 0, rfl, .nil w⟩
 | true =>
  rcases takeP_cases s hx with ⟨E', ht, hE, e⟩ | ⟨m, q, ht, hq, hm, h7, e⟩ | ⟨m, q, E', ht, hq, hm, h7, hta, hE, e⟩ | ⟨m, q, L', ht, hq, hm, h7, hta, e⟩
  ·rw [e] at h
   obtain ⟨rfl, rfl, rfl⟩ : [] = L ∧ 0 = K ∧ E' = E := by
    injection h with h1 h2
    injection h2 with h2 h3
    exact ⟨h1, h2, h3⟩
   have HT := Lib.hid (fun W => TakeNum_z s 0 0 E' W (by omega) ht)
   have hEb := ne_true hE
   clear hx h e ht hE
   go_enter Tryz.func152, Tryz.ntmps152
   go_wp2_with (first | (go_at_call 111; refine (HP.out _).mono ?_; rintro e w' ⟨rfl, rfl⟩) | (go_at_call 81; refine (HT.out _).mono ?_; rintro e w' ⟨rfl, rfl⟩))
   go_ret3
   exact ⟨none, 0, rfl, .nil w⟩
  ·rw [e] at h
   obtain ⟨rfl, rfl, rfl⟩ : [] = L ∧ 0 = K ∧ 7 = E := by
    injection h with h1 h2
    injection h2 with h2 h3
    exact ⟨h1, h2, h3⟩
   have HT := Lib.hid (fun W => TakeNum_z s (m : Int) (q : Int) 0 W (by omega) ht)
   have hlt : (s.size : Int) - (q : Int) < (m : Int) := by omega
   clear hx h e ht
   go_enter Tryz.func152, Tryz.ntmps152
   go_wp2_with (first | (go_at_call 111; refine (HP.out _).mono ?_; rintro e w' ⟨rfl, rfl⟩) | (go_at_call 81; refine (HT.out _).mono ?_; rintro e w' ⟨rfl, rfl⟩))
   go_ret3
   exact ⟨none, 0, rfl, .nil w⟩
  ·rw [e] at h
   obtain ⟨rfl, rfl, rfl⟩ : [] = L ∧ 0 = K ∧ E' = E := by
    injection h with h1 h2
    injection h2 with h2 h3
    exact ⟨h1, h2, h3⟩
   have HT := Lib.hid (fun W => TakeNum_z s (m : Int) (q : Int) 0 W (by omega) ht)
   have HA := Lib.hid (fun W => takeAll_is place (s.extract q (q + m)) (s.size + 1) [] E' W (by rw [ByteArray.size_extract]; omega) (by rw [ByteArray.size_extract]; omega) hta)
   have hlt : ¬ (s.size : Int) - (q : Int) < (m : Int) := by omega
   have hdl : decide ((s.size : Int) - (q : Int) < (m : Int)) = false := decide_eq_false hlt
   have hq0 : (0 : Int) ≤ (q : Int) := by omega
   have hqm : (q : Int) ≤ (q : Int) + (m : Int) := by omega
   have hqs : (q : Int) + (m : Int) ≤ (s.size : Int) := by omega
   have htn : ((q : Int) + (m : Int)).toNat = q + m := by omega
   have hEb := ne_true hE
   clear hx h e ht hta hE
   go_enter Tryz.func152, Tryz.ntmps152
   go_wp2_with (first | (go_at_call 111; refine (HP.out _).mono ?_; rintro e w' ⟨rfl, rfl⟩) | (go_at_call 81; refine (HT.out _).mono ?_; rintro e w' ⟨rfl, rfl⟩))
   refine (HA.out _).mono ?_
   rintro e w1 ⟨A, c, rfl, hta⟩
   have HTA := Lib.hid hta
   clear hta HA HT HP
   go_wp2_with fail
   go_ret3
   exact ⟨none, 0, rfl, .mk (World.ownsRow_nil _ _ _ _) HTA.out.out.2⟩
  ·rw [e] at h
   obtain ⟨rfl, rfl, rfl⟩ : L' = L ∧ (q : Int) + (m : Int) = K ∧ 0 = E := by
    injection h with h1 h2
    injection h2 with h2 h3
    exact ⟨h1, h2, h3⟩
   have HT := Lib.hid (fun W => TakeNum_z s (m : Int) (q : Int) 0 W (by omega) ht)
   have HA := Lib.hid (fun W => takeAll_is place (s.extract q (q + m)) (s.size + 1) L' 0 W (by rw [ByteArray.size_extract]; omega) (by rw [ByteArray.size_extract]; omega) hta)
   have hlt : ¬ (s.size : Int) - (q : Int) < (m : Int) := by omega
   have hdl : decide ((s.size : Int) - (q : Int) < (m : Int)) = false := decide_eq_false hlt
   have hq0 : (0 : Int) ≤ (q : Int) := by omega
   have hqm : (q : Int) ≤ (q : Int) + (m : Int) := by omega
   have hqs : (q : Int) + (m : Int) ≤ (s.size : Int) := by omega
   have htn : ((q : Int) + (m : Int)).toNat = q + m := by omega
   clear hx h e ht hta
   go_enter Tryz.func152, Tryz.ntmps152
   go_wp2_with (first | (go_at_call 111; refine (HP.out _).mono ?_; rintro e w' ⟨rfl, rfl⟩) | (go_at_call 81; refine (HT.out _).mono ?_; rintro e w' ⟨rfl, rfl⟩))
   refine (HA.out _).mono ?_
   rintro e w1 ⟨A, c, rfl, hta⟩
   have HTA := Lib.hid hta
   clear hta HA HT HP
   go_wp2_with fail
   go_ret3
   exact ⟨A, c, rfl, HTA.out⟩
open Go.RowKit Go.Lib Prp Vbi
theorem putOne_same (k id n : Int) (s v S : ByteArray) (w : World) (hk : kindZ id = k) (hk0 : k ≠ 0) (hn : n ≤ 9223372036854775807) (hs : s.size ≤ 9223372036854775807) (hp : putB k n s v = true)
  (hd : diffB (strip k ⟨id, n, s, v⟩) ⟨id, n, s, v⟩ = false) (hS : oneStr ⟨id, n, s, v⟩ = S) :
  Calls Tryz.prog 113 #[.agg #[.int .i64 id, .int .i64 n, .string s, .string v]] w fun e w' => e = .returned (.tuple #[.string S, .int .i64 0]) ∧ Below w.heap.size w w' := by
 have hr := kind_range id
 rw [hk] at hr
 obtain ⟨hi1, hi42⟩ := kind_id (id := id) (by rw [hk]; exact hk0)
 obtain ⟨X, hX⟩ : ∃ X, anyOf k ⟨id, n, s, v⟩ = X := ⟨_, rfl⟩
 obtain ⟨T, hT⟩ : ∃ T, valStr k ⟨id, n, s, v⟩ = T := ⟨_, rfl⟩
 obtain ⟨⟨i', n', s', v'⟩, hq⟩ : ∃ q, strip k ⟨id, n, s, v⟩ = q := ⟨_, rfl⟩
 have hz : T.size ≤ 2052 := by rw [← hT]; exact val_size hr.1 hr.2 hk0 hp
 have HK := Lib.hid (fun W => Kind_is id k _ W hk rfl)
 have HV := Lib.hid (fun W => valueOf_is k id n s v X W hX)
 have HP := Lib.hid (fun W => put_yes k id n s v T X W hr.1 hr.2 hk0 hn hs hX hp hT)
 have HO := Lib.hid (fun W => propOf_is k id n i' n' s v s' v' X W hX hq)
 have HS : Hid (strOfNums [id] ++ T = S) := by
  show _ = _
  rw [← hS, ← hT]
  unfold oneStr
  show _ = strOfNums [id] ++ valStr (kindZ id) _
  rw [hk]
 rw [hq] at hd
 have hne := neq_props i' n' id n s' v' s v
 rw [hd] at hne
 have HN := Lib.hid hne
 have hcv := conv_byte
 have hz1 : (strOfNums [id]).size ≤ 1 := by rw [strOfNums_size]; simp
 clear hk hk0 hX hp hr hT hq hd hS hne
 go_enter Tryz.func113, Tryz.ntmps113
 go_wp2_with fail
 have HB := Lib.hid (Keep.new w 99 #[.int .i64 id, .int .i64 n, .string s, .string v])
 obtain ⟨g, hg⟩ : ∃ g, w.heap.size = g := ⟨_, rfl⟩
 generalize w.alloc (.cells #[.int .i64 id, .int .i64 n, .string s, .string v] 99) = w0 at HB ⊢
 rw [hg] at HB ⊢
 have HG := Lib.hid hg
 clear hg
 refine (HK.out _).mono ?_
 rintro e w' ⟨rfl, rfl⟩
 obtain ⟨c0, c1, c2, c3⟩ := HB.out.four
 go_wp2_with fail
 refine (HV.out _).mono ?_
 rintro e w1 ⟨rfl, hb1⟩
 have HB1 := Lib.hid (HB.out.below hb1)
 clear c0 c1 c2 c3 hb1 HB HV
 go_wp2_with fail
 refine (HP.out _).mono ?_
 rintro e w2 ⟨rfl, hb2⟩
 have HB2 := HB1.out.below hb2
 clear hb2 HB1 HP
 obtain ⟨c0, c1, c2, c3⟩ := HB2.four
 have hne2 := HN.out
 go_wp2_with fail
 go_region_held3 (fun W => W.cell? ⟨g, 0, none⟩ = some (.int .i64 id) ∧ W.cell? ⟨g, 1, none⟩ = some (.int .i64 n) ∧ W.cell? ⟨g, 2, none⟩ = some (.string s) ∧ W.cell? ⟨g, 3, none⟩ = some (.string v) ∧ Keep w g #[.int .i64 id, .int .i64 n, .string s, .string v] W)
  (first | exact ⟨d0, d1, d2, d3, st⟩ | exact ⟨c0, c1, c2, c3, HB2.drewN 1⟩)
  (first | (go_at_call 142; (with_reducible refine (HO.out _).mono ?_); rintro e w3 ⟨rfl, hb3⟩; have st := (HB2.drewN 1).below hb3; obtain ⟨d0, d1, d2, d3⟩ := st.four))
 have HB3 := Lib.hid st.out.2
 clear hb3 st d1 d2 d3 c0 c1 c2 c3 HB2 hne2 HO HN
 go_wp2_with fail
 go_ret2
 exact ⟨by rw [← HS.out]; rfl, HB3.out.alloc HB3.out.size _⟩
theorem putOne_diff (k id n : Int) (s v : ByteArray) (w : World) (hk : kindZ id = k) (hk0 : k ≠ 0) (hn : n ≤ 9223372036854775807) (hs : s.size ≤ 9223372036854775807) (hp : putB k n s v = true)
  (hd : diffB (strip k ⟨id, n, s, v⟩) ⟨id, n, s, v⟩ = true) :
  Calls Tryz.prog 113 #[.agg #[.int .i64 id, .int .i64 n, .string s, .string v]] w fun e w' => e = .returned (.tuple #[.string ⟨#[]⟩, .int .i64 1]) ∧ Below w.heap.size w w' := by
 have hr := kind_range id
 rw [hk] at hr
 obtain ⟨X, hX⟩ : ∃ X, anyOf k ⟨id, n, s, v⟩ = X := ⟨_, rfl⟩
 obtain ⟨T, hT⟩ : ∃ T, valStr k ⟨id, n, s, v⟩ = T := ⟨_, rfl⟩
 obtain ⟨⟨i', n', s', v'⟩, hq⟩ : ∃ q, strip k ⟨id, n, s, v⟩ = q := ⟨_, rfl⟩
 have hz : T.size ≤ 2052 := by rw [← hT]; exact val_size hr.1 hr.2 hk0 hp
 have HK := Lib.hid (fun W => Kind_is id k _ W hk rfl)
 have HV := Lib.hid (fun W => valueOf_is k id n s v X W hX)
 have HP := Lib.hid (fun W => put_yes k id n s v T X W hr.1 hr.2 hk0 hn hs hX hp hT)
 have HO := Lib.hid (fun W => propOf_is k id n i' n' s v s' v' X W hX hq)
 rw [hq] at hd
 have hne := neq_props i' n' id n s' v' s v
 rw [hd] at hne
 have HN := Lib.hid hne
 clear hk hk0 hX hp hr hT hq hd hne
 go_enter Tryz.func113, Tryz.ntmps113
 go_wp2_with fail
 have HB := Lib.hid (Keep.new w 99 #[.int .i64 id, .int .i64 n, .string s, .string v])
 obtain ⟨g, hg⟩ : ∃ g, w.heap.size = g := ⟨_, rfl⟩
 generalize w.alloc (.cells #[.int .i64 id, .int .i64 n, .string s, .string v] 99) = w0 at HB ⊢
 rw [hg] at HB ⊢
 have HG := Lib.hid hg
 clear hg
 refine (HK.out _).mono ?_
 rintro e w' ⟨rfl, rfl⟩
 obtain ⟨c0, c1, c2, c3⟩ := HB.out.four
 go_wp2_with fail
 refine (HV.out _).mono ?_
 rintro e w1 ⟨rfl, hb1⟩
 have HB1 := Lib.hid (HB.out.below hb1)
 clear c0 c1 c2 c3 hb1 HB HV
 go_wp2_with fail
 refine (HP.out _).mono ?_
 rintro e w2 ⟨rfl, hb2⟩
 have HB2 := HB1.out.below hb2
 clear hb2 HB1 HP
 obtain ⟨c0, c1, c2, c3⟩ := HB2.four
 have hne2 := HN.out
 go_wp2_with fail
 go_region_held3 (fun W => W.cell? ⟨g, 0, none⟩ = some (.int .i64 id) ∧ W.cell? ⟨g, 1, none⟩ = some (.int .i64 n) ∧ W.cell? ⟨g, 2, none⟩ = some (.string s) ∧ W.cell? ⟨g, 3, none⟩ = some (.string v) ∧ Keep w g #[.int .i64 id, .int .i64 n, .string s, .string v] W)
  (first | exact ⟨d0, d1, d2, d3, st⟩ | exact ⟨c0, c1, c2, c3, HB2.drewN 1⟩)
  (first | (go_at_call 142; (with_reducible refine (HO.out _).mono ?_); rintro e w3 ⟨rfl, hb3⟩; have st := (HB2.drewN 1).below hb3; obtain ⟨d0, d1, d2, d3⟩ := st.four))
 have HB3 := Lib.hid st.out.2
 clear hb3 st d0 d1 d2 d3 c0 c1 c2 c3 HB2 hne2 HO HN
 go_wp2_with fail
 go_ret2
 exact ⟨rfl, HB3.out⟩
theorem putOne_yes (id n : Int) (s v S : ByteArray) (w : World) (hk0 : kindZ id ≠ 0) (hn : n ≤ 9223372036854775807) (hs : s.size ≤ 9223372036854775807) (hb : valB (kindZ id) ⟨id, n, s, v⟩ = true) (hS : oneStr ⟨id, n, s, v⟩ = S) :
  Calls Tryz.prog 113 #[.agg #[.int .i64 id, .int .i64 n, .string s, .string v]] w fun e w' => e = .returned (.tuple #[.string S, .int .i64 0]) ∧ Below w.heap.size w w' := by
 have hr := kind_range id
 rw [val_put _ id n s v hr.1 hr.2 hk0, Bool.and_eq_true, Bool.not_eq_true'] at hb
 exact putOne_same _ id n s v S w rfl hk0 hn hs hb.1 hb.2 hS
theorem putOne_no (id n : Int) (s v : ByteArray) (w : World) (hk0 : kindZ id ≠ 0) (hk1 : kindZ id = 1 → n = 0 ∨ n = 1) (hn : n ≤ 9223372036854775807) (hs : s.size ≤ 9223372036854775807) (hv : v.size ≤ 9223372036854775807) (hb : valB (kindZ id) ⟨id, n, s, v⟩ = false) :
  Calls Tryz.prog 113 #[.agg #[.int .i64 id, .int .i64 n, .string s, .string v]] w fun e w' => e = .returned (.tuple #[.string ⟨#[]⟩, .int .i64 1]) ∧ Below w.heap.size w w' := by
 have hr := kind_range id
 rw [val_put _ id n s v hr.1 hr.2 hk0] at hb
 cases hp : putB (kindZ id) n s v with
 | false => exact putOne_wrong _ id n s v w rfl hk0 hk1 hn hs hv hp
 | true =>
  rw [hp, Bool.true_and, Bool.not_eq_false'] at hb
  exact putOne_diff _ id n s v w rfl hk0 hn hs hp hb
theorem one_size (id n : Int) (s v : ByteArray) (hk0 : kindZ id ≠ 0) (hb : valB (kindZ id) ⟨id, n, s, v⟩ = true) : (oneStr ⟨id, n, s, v⟩).size ≤ 2053 := by
 have hr := kind_range id
 rw [val_put _ id n s v hr.1 hr.2 hk0, Bool.and_eq_true] at hb
 have := val_size (id := id) hr.1 hr.2 hk0 hb.1
 unfold oneStr
 rw [ByteArray.size_append, strOfNums_size]
 show 1 + (valStr (kindZ id) _).size ≤ _
 omega
open Go.RowKit Go.Lib
theorem builder_size : (Tryz.prog.info? 103).map (·.size) = some 2 := by kernel_rfl
theorem builder_lies : liesAt Tryz.prog Tryz.prog.depth 103 (2 / Tryz.prog.cellsOf 103) 0 103 1 = true := by kernel_rfl
theorem copyCheck_used (b : Nat) (w : World) (h0 : w.cell? ⟨b, 0, none⟩ = some (.pointer (some ⟨b, 0, none⟩))) :
  Calls Tryz.prog 95 #[.pointer (some ⟨b, 0, none⟩)] w fun e w' => e = .returned (.tuple #[]) ∧ w = w' := by
 obtain ⟨j, hj, _⟩ := Option.map_eq_some_iff.1 builder_size
 go_enter Tryz.func95, Tryz.ntmps95
 go_wp2
 rw [Lib.run_neq_ptr_same w _ Tryz.underlying101 hj]
 go_wp2
 go_end0
 exact ⟨rfl, rfl⟩
theorem copyCheck_fresh (b : Nat) (w : World) (h0 : w.cell? ⟨b, 0, none⟩ = some (.pointer none)) (hsh : w.shape? b = some (103, 2)) (hfz : w.frozen? ⟨b, 0, none⟩ = false) :
  Calls Tryz.prog 95 #[.pointer (some ⟨b, 0, none⟩)] w fun e w' => e = .returned (.tuple #[]) ∧ w' = w.setCell ⟨b, 0, none⟩ (.pointer (some ⟨b, 0, none⟩)) := by
 obtain ⟨j, hj, hjs⟩ := Option.map_eq_some_iff.1 builder_size
 go_enter Tryz.func95, Tryz.ntmps95
 go_wp2
 rw [Lib.run_to_unsafe w ⟨b, 0, none⟩ Tryz.underlying101 Tryz.underlying164 hj (by rw [hjs]; decide) hsh (Nat.zero_lt_succ 1)]
 simp only [Result.andThen]
 rw [Oper.upon_value]
 go_wp2
 rw [run_callFunc_extern Tryz.func115 (by kernel_rfl) (by kernel_rfl) (by kernel_rfl) (e := Extern.AbiNoEscape.same) (by kernel_rfl), Lib.run_noEscape]
 simp only [Result.andThen]
 rw [Oper.upon_value]
 go_wp2
 rw [Lib.run_from_unsafe w ⟨b, 0, none⟩ Tryz.underlying164 Tryz.underlying101 hj hsh builder_lies]
 simp only [Result.andThen]
 rw [Oper.upon_value]
 go_wp2
 go_end0
 exact ⟨rfl, rfl⟩
def Built (B b : Nat) (s : ByteArray) (w : World) : Prop := IsBuilder 103 5 B b (Lib.byteCells s.data.toList) w
theorem copyCheck_is (B b : Nat) (xs : List Value) (w : World) (h : IsBuilder 103 5 B b xs w) :
  Calls Tryz.prog 95 #[.pointer (some ⟨b, 0, none⟩)] w fun e w' => e = .returned (.tuple #[]) ∧ BuilderAt 103 5 B b (.pointer (some ⟨b, 0, none⟩)) xs w' ∧ Below B w w' := by
 rcases h with h | h
 ·exact (copyCheck_fresh b w h.cell0 h.shape h.frozen0).mono fun _ _ ⟨he, hw⟩ => ⟨he, by rw [hw]; exact h.used _, by rw [hw]; exact (Below.refl B w).setCell (p := ⟨b, 0, none⟩) h.1 _⟩
 ·exact (copyCheck_used b w h.cell0).mono fun _ _ ⟨he, hw⟩ => ⟨he, by rw [← hw]; exact h, by rw [← hw]; exact Below.refl B w⟩
theorem own_any {w : World} {B e n : Nat} {v : Value} {xs : List Value} (h : w.ownsRow B e 1 v n xs) : ∃ a m c, v = .slice a m c := by
 rcases h.2 with ⟨hv, _⟩ | ⟨g, cap, cur, hv, _⟩
 ·exact ⟨_, _, _, hv⟩
 ·exact ⟨_, _, _, hv⟩
theorem WriteString_cells (B b : Nat) (xs : List Value) (s : ByteArray) (w : World) (h : IsBuilder 103 5 B b xs w) (hlen : xs.length + s.size ≤ 140737488355328) (hBw : B ≤ w.heap.size) :
  Calls Tryz.prog 64 #[.pointer (some ⟨b, 0, none⟩), .string s] w fun e w' => (∃ v, e = .returned v) ∧ BuilderAt 103 5 B b (.pointer (some ⟨b, 0, none⟩)) (xs ++ Lib.strCells s) w' ∧ Below B w w' := by
 obtain ⟨i0, hi, hz0, hz1, hz2⟩ := info_parts info_byte
 have HC := Lib.hid (fun W hW => copyCheck_is B b xs W hW)
 go_enter Tryz.func64, Tryz.ntmps64
 go_wp2_with fail
 refine (HC.out _ h).mono ?_
 rintro e w1 ⟨rfl, ⟨hB, v, hbk, hown, hne⟩, hb1⟩
 have c0 : w1.cell? ⟨b, 0, none⟩ = some (.pointer (some ⟨b, 0, none⟩)) := by rw [Lib.cell_of_heap hbk]; rfl
 have c1 : w1.cell? ⟨b, 1, none⟩ = some v := by rw [Lib.cell_of_heap hbk]; rfl
 have hBw1 : B ≤ w1.heap.size := Nat.le_trans hBw hb1.size
 go_wp2_with (at_builtin; refine Lib.wpList_append_own_string _ rfl _ _ 68 9 rfl B 5 i0 Tryz.underlying68 Tryz.underlying9 hi hz0 hz1 hz2 _ _ _ rfl hown s rfl ?x1 ?x2 hBw1 ?_)
 case x1 => unfold maxLen; omega
 case x2 => omega
 intro v' w2 hown' hgrow _
 have hlt : b < w1.heap.size := (Array.getElem?_eq_some_iff.1 hbk).1
 have hb2 : w2.heap[b]? = some (.cells #[.pointer (some ⟨b, 0, none⟩), v] 103 (0, 0)) := (hgrow.block b hlt (fun e => hne e.symm)).trans hbk
 have d0 : w2.cell? ⟨b, 0, none⟩ = some (.pointer (some ⟨b, 0, none⟩)) := by rw [Lib.cell_of_heap hb2]; rfl
 have d1 : w2.cell? ⟨b, 1, none⟩ = some v := by rw [Lib.cell_of_heap hb2]; rfl
 have f1 : w2.frozen? ⟨b, 1, none⟩ = false := Lib.frozen_of_heap hb2 1
 obtain ⟨a, m, c, rfl⟩ := own_any hown'
 go_wp2
 go_ret2
 refine ⟨⟨_, rfl⟩, ?_, ?_⟩
 ·exact Lib.BuilderAt.put hB hb2 (bs' := xs ++ Lib.strCells s) (by simpa [Lib.strCells_length] using hown') (by decide)
 ·exact (hb1.grown hgrow hBw1 (fun k hk => (hown.lt k hk).1)).setCell (p := ⟨b, 1, none⟩) hB _
theorem cells_add (s t : ByteArray) : Lib.byteCells (s ++ t).data.toList = Lib.byteCells s.data.toList ++ Lib.strCells t := by
 rw [ByteArray.data_append, Array.toList_append]
 simp [Lib.byteCells, Lib.strCells]
theorem WriteString_is (B b : Nat) (s t : ByteArray) (w : World) (h : Built B b s w) (hlen : s.size + t.size ≤ 140737488355328) (hBw : B ≤ w.heap.size) :
  Calls Tryz.prog 64 #[.pointer (some ⟨b, 0, none⟩), .string t] w fun e w' => (∃ v, e = .returned v) ∧ Built B b (s ++ t) w' ∧ Below B w w' := by
 refine (WriteString_cells B b _ t w h ?_ hBw).mono fun _ _ ⟨h1, h2, h3⟩ => ⟨h1, .inr ?_, h3⟩
 ·have : (Lib.byteCells s.data.toList).length = s.size := by rw [Lib.size_eq]; simp [Lib.byteCells]
  omega
 ·rw [cells_add]; exact h2
theorem built_new (w : World) : Built w.heap.size w.heap.size ⟨#[]⟩ (w.alloc (.cells #[.pointer none, .slice none 0 0] 103)) := Lib.fresh_isBuilder _ _ w
theorem Len_is (B b : Nat) (s : ByteArray) (w : World) (h : Built B b s w) :
  Calls Tryz.prog 114 #[.pointer (some ⟨b, 0, none⟩)] w fun e w' => e = .returned (.int .i64 (s.size : Int)) ∧ w = w' := by
 have : (Lib.byteCells s.data.toList).length = s.size := by rw [Lib.size_eq]; simp [Lib.byteCells]
 rw [← this]
 exact (Tryz.Builder_Len B b _ w h).mono fun _ _ ⟨h1, h2⟩ => ⟨h1, h2.symm⟩
theorem String_is (B b : Nat) (s : ByteArray) (w : World) (h : Built B b s w) (hBw : B ≤ w.heap.size) :
  Calls Tryz.prog 65 #[.pointer (some ⟨b, 0, none⟩)] w fun e w' => e = .returned (.string s) ∧ Below B w w' :=
 (Tryz.Builder_String_any B b s.data.toList w h hBw).mono fun _ _ ⟨h1, h2⟩ => ⟨by rw [h1], h2⟩
open Go.RowKit Go.Lib Prp Vbi
def bytesStr (place : Int) (l : List P) : ByteArray := if propsB place l = true then propStr l else ⟨#[]⟩
def bytesErr (place : Int) (l : List P) : Int := if propsB place l = true then 0 else 1
theorem bytes_yes {place : Int} {l : List P} (h : propsB place l = true) : bytesStr place l = propStr l ∧ bytesErr place l = 0 := by unfold bytesStr bytesErr; rw [if_pos h, if_pos h]; exact ⟨rfl, rfl⟩
theorem bytes_no {place : Int} {l : List P} (h : propsB place l = false) : bytesStr place l = ⟨#[]⟩ ∧ bytesErr place l = 1 := by
 have h' : ¬ propsB place l = true := by rw [h]; decide
 unfold bytesStr bytesErr; rw [if_neg h', if_neg h']; exact ⟨rfl, rfl⟩
theorem props_place {place : Int} {l : List P} (h : placeB place = false) : propsB place l = false := by unfold propsB; rw [h]; rfl
theorem props_many {place : Int} {l : List P} (h : 8 < l.length) : propsB place l = false := by unfold propsB; rw [decide_eq_false (by omega)]; simp
theorem props_few {place : Int} {l : List P} (h : placeB place = true) (h8 : l.length ≤ 8) : propsB place l = goodL place [] l := by unfold propsB; rw [h, decide_eq_true h8]; simp
theorem good_step {place : Int} {l : List P} {k : Nat} (hk : k < l.length) : goodL place (l.take k) (l.drop k) = (goodB place (l.take k) l[k] && goodL place (l.take (k + 1)) (l.drop (k + 1))) := by
 rw [List.drop_eq_getElem_cons hk, List.take_succ_eq_append_getElem hk]; rfl
theorem rest_step {l : List P} {k : Nat} (hk : k < l.length) : restStr (l.take (k + 1)) = restStr (l.take k) ++ oneStr l[k] := by
 rw [List.take_succ_eq_append_getElem hk, rest_snoc]
theorem Built.below {W W' : World} {B b : Nat} {s : ByteArray} (h : Built B b s W) (hb : Below W.heap.size W W') : Built B b s W' := by
 have key : ∀ p, BuilderAt 103 5 B b p (Lib.byteCells s.data.toList) W → BuilderAt 103 5 B b p (Lib.byteCells s.data.toList) W' := fun p h => by
  have hl := h.lt
  obtain ⟨h1, v, h2, h3, h4⟩ := h
  exact ⟨h1, v, (hb.block b hl).trans h2, own_below h3 hb, h4⟩
 rcases h with h | h
 ·exact .inl (key _ h)
 ·exact .inr (key _ h)
@[irreducible] def BSt (w : World) (A : Option Addr) (l : List P) (b : Nat) (S : ByteArray) (W : World) : Prop := Built w.heap.size b S W ∧ PropsAt W w.heap.size A l ∧ Below w.heap.size w W
section
variable {w W W' : World} {A : Option Addr} {l : List P} {b g : Nat} {S T : ByteArray} {cs : Array Value}
theorem BSt.mk (h1 : Built w.heap.size b S W) (h2 : PropsAt W w.heap.size A l) (h3 : Below w.heap.size w W) : BSt w A l b S W := by unfold BSt; exact ⟨h1, h2, h3⟩
theorem BSt.out (h : BSt w A l b S W) : Built w.heap.size b S W ∧ PropsAt W w.heap.size A l ∧ Below w.heap.size w W := by unfold BSt at h; exact h
theorem BSt.below (h : BSt w A l b S W) (hb : Below W.heap.size W W') : BSt w A l b S W' :=
 .mk (h.out.1.below hb) (h.out.2.1.below (hb.mono h.out.2.2.size)) (h.out.2.2.trans (hb.mono h.out.2.2.size))
theorem BSt.drewN (h : BSt w A l b S W) (n : Nat) : BSt w A l b S (W.drewN n) := h.below (below_drewN (Below.refl _ _) n)
theorem BSt.alloc (h : BSt w A l b S W) (o : Obj) : BSt w A l b S (W.alloc o) := h.below ((Below.refl _ _).alloc (Nat.le_refl _) o)
theorem BSt.write (h : BSt w A l b S W) (h1 : Built w.heap.size b T W') (hb : Below w.heap.size W W') : BSt w A l b T W' := .mk h1 (h.out.2.1.below hb) (h.out.2.2.trans hb)
@[irreducible] def BStP (w : World) (A : Option Addr) (l : List P) (b : Nat) (S : ByteArray) (g : Nat) (cs : Array Value) (W : World) : Prop := BSt w A l b S W ∧ Box W g cs
theorem BStP.mk (h1 : BSt w A l b S W) (h2 : Box W g cs) : BStP w A l b S g cs W := by unfold BStP; exact ⟨h1, h2⟩
theorem BStP.out (h : BStP w A l b S g cs W) : BSt w A l b S W ∧ Box W g cs := by unfold BStP at h; exact h
theorem BStP.below (h : BStP w A l b S g cs W) (hb : Below W.heap.size W W') : BStP w A l b S g cs W' := .mk (h.out.1.below hb) (h.out.2.below hb)
theorem BStP.drewN (h : BStP w A l b S g cs W) (n : Nat) : BStP w A l b S g cs (W.drewN n) := h.below (below_drewN (Below.refl _ _) n)
theorem BStP.new (h : BSt w A l b S W) (T : TypeId) : BStP w A l b S W.heap.size cs (W.alloc (.cells cs T)) := .mk (h.alloc _) (.new W T cs)
end
theorem BStP.four {w W : World} {A : Option Addr} {l : List P} {b g : Nat} {S : ByteArray} {x y : Int} {s v : ByteArray} (h : BStP w A l b S g #[.int .i64 x, .int .i64 y, .string s, .string v] W) :
  W.cell? ⟨g, 0, none⟩ = some (.int .i64 x) ∧ W.cell? ⟨g, 1, none⟩ = some (.int .i64 y) ∧ W.cell? ⟨g, 2, none⟩ = some (.string s) ∧ W.cell? ⟨g, 3, none⟩ = some (.string v) :=
 ⟨h.out.2.cell 0, h.out.2.cell 1, h.out.2.cell 2, h.out.2.cell 3⟩
theorem mayFollow_take (place id n : Int) (s v : ByteArray) (l : List P) (k : Nat) (A : Option Addr) (c B : Nat) (b : Bool) (w : World) (hk : k ≤ l.length) (hm : l.length ≤ 9223372036854775807) (h : PropsAt w B A l) (hB : B ≤ w.heap.size) (hb : mayB place (l.take k) ⟨id, n, s, v⟩ = b) :
  Calls Tryz.prog 112 #[.int .i64 place, .slice A k c, .agg #[.int .i64 id, .int .i64 n, .string s, .string v]] w fun e w' => e = .returned (.bool b) ∧ Below w.heap.size w w' := by
 have := mayFollow_is place id n s v (l.take k) A c b w (by rw [List.length_take]; omega) ((h.mono hB).take k) hb
 rwa [List.length_take, Nat.min_eq_left hk] at this
theorem may_kind {place id n : Int} {s v : ByteArray} {a : List P} (h : mayB place a ⟨id, n, s, v⟩ = true) : kindZ id ≠ 0 ∧ (kindZ id = 1 → n = 0 ∨ n = 1) := by
 unfold mayB at h
 rw [Bool.and_eq_true, Bool.and_eq_true] at h
 refine ⟨stand_kind h.1, fun h1 => ?_⟩
 have h2 : haveB id n = true := h.2.1
 unfold haveB at h2
 by_cases hz : noZ id
 ·unfold noZ at hz
  rcases hz with rfl | rfl | rfl | rfl <;> cases h1
 ·rw [if_neg hz] at h2
  have := of_decide_eq_true h2
  omega
theorem Bytes_is (place : Int) (l : List P) (A : Option Addr) (c : Nat) (S : ByteArray) (E : Int) (w : World) (hm : l.length ≤ 9223372036854775807) (hcap : l.length ≤ c) (hfit : ∀ p ∈ l, Fit p) (h : PropsAt w w.heap.size A l)
  (hS : bytesStr place l = S) (hE : bytesErr place l = E) :
  Calls Tryz.prog 94 #[.int .i64 place, .slice A l.length c] w fun e w' => e = .returned (.tuple #[.string S, .int .i64 E]) ∧ Below w.heap.size w w' := by
 have H := Lib.hid h
 have HF := Lib.hid hfit
 clear h hfit
 obtain ⟨x, hx⟩ : ∃ x, placeB place = x := ⟨_, rfl⟩
 have HP := Lib.hid (fun W => isPlace_is place x W hx)
 cases x with
 | false =>
  obtain ⟨e1, e2⟩ := bytes_no (props_place (l := l) hx)
  obtain rfl : ⟨#[]⟩ = S := e1.symm.trans hS
  obtain rfl : 1 = E := e2.symm.trans hE
  clear hx hS hE e1 e2
  go_enter Tryz.func94, Tryz.ntmps94
  go_wp2_with (go_at_call 111; refine (HP.out _).mono ?_; rintro e w' ⟨rfl, rfl⟩)
  go_ret2
  exact ⟨rfl, Below.refl _ _⟩
 | true =>
 by_cases h8 : 8 < l.length
 ·obtain ⟨e1, e2⟩ := bytes_no (props_many (place := place) h8)
  obtain rfl : ⟨#[]⟩ = S := e1.symm.trans hS
  obtain rfl : 1 = E := e2.symm.trans hE
  clear hx hS hE e1 e2
  go_enter Tryz.func94, Tryz.ntmps94
  go_wp2_with (go_at_call 111; refine (HP.out _).mono ?_; rintro e w' ⟨rfl, rfl⟩)
  go_ret2
  exact ⟨rfl, Below.refl _ _⟩
 have HG := Lib.hid (props_few hx (show l.length ≤ 8 by omega))
 have hd8 : decide (8 < (l.length : Int)) = false := by simp; omega
 have hl8 : l.length ≤ 8 := by omega
 have HS := Lib.hid hS
 have HE := Lib.hid hE
 clear hx hS hE
 go_enter Tryz.func94, Tryz.ntmps94
 go_wp2_with (go_at_call 111; refine (HP.out _).mono ?_; rintro e w' ⟨rfl, rfl⟩)
 have HB := Lib.hid (BSt.mk (w := w) (A := A) (l := l) (built_new w) (H.out.alloc (Nat.le_refl _) _) ((Below.refl _ _).alloc (Nat.le_refl _) _))
 obtain ⟨b, hb⟩ : ∃ b, w.heap.size = b := ⟨_, rfl⟩
 have hBb : BSt w A l b ⟨#[]⟩ (w.alloc (.cells #[.pointer none, .slice none 0 0] 103)) := by rw [← hb]; exact HB.out
 rw [hb]
 have HB0 := Lib.hid hBb
 clear hb hBb HB
 go_loopw [23] (fun i wr => ∃ k : Nat, k ≤ l.length ∧ i = .int .i64 (k : Int) ∧ BSt w A l b (restStr (l.take k)) wr ∧ goodL place [] l = goodL place (l.take k) (l.drop k) ∧ (restStr (l.take k)).size ≤ 2053 * k) (fun i _ => l.length - (RowKit.intOf i).toNat)
 case atStart => exact ⟨0, Nat.zero_le _, rfl, HB0.out, rfl, by rw [List.take_zero]; decide⟩
 case round =>
  obtain ⟨k, hk, rfl, hst, hgood, hsz⟩ := hrel
  have HT := Lib.hid hst
  have HGD := Lib.hid hgood
  have hsz2 : (restStr (l.take k)).size ≤ 16424 := by omega
  have HZ := Lib.hid hsz
  clear hst hgood hsz HB0
  by_cases hlt : k < l.length
  ·have HR := Lib.hid (rest_step hlt)
   have HGS := Lib.hid (HGD.out.trans (good_step hlt))
   have hfp : Fit l[k] := HF.out _ (List.getElem_mem hlt)
   obtain ⟨b0, o, rfl, hb0, hc⟩ := H.out.some_ (by omega)
   obtain ⟨_, _, hAeq, _, hcw⟩ := HT.out.out.2.1.some_ (by omega)
   obtain ⟨rfl, rfl⟩ : b0 = _ ∧ o = _ := by injection hAeq with e; injection e with e1 e2; exact ⟨e1, e2⟩
   obtain ⟨d0, d1, d2, d3⟩ := hcw k hlt
   clear hc hcw hAeq
   obtain ⟨q, hq⟩ : ∃ q, l[k] = q := ⟨_, rfl⟩
   rw [hq] at d0 d1 d2 d3 hfp
   have hqq : l[k] = q := hq
   have HR2 : Hid (restStr (l.take (k + 1)) = restStr (l.take k) ++ oneStr q) := by rw [← hqq]; exact HR.out
   have HGS2 : Hid (goodL place [] l = (goodB place (l.take k) q && goodL place (l.take (k + 1)) (l.drop (k + 1)))) := by rw [← hqq]; exact HGS.out
   clear hq hqq HR HGS
   obtain ⟨id, n, s, v⟩ := q
   have hn1 := hfp.n1
   have hs1 := hfp.hs
   have hv1 := hfp.hv
   obtain ⟨T, hT⟩ : ∃ T, restStr (l.take k) = T := ⟨_, rfl⟩
   rw [hT] at HT hsz2 HR2 HZ
   clear hT
   have HBP := BStP.new (cs := #[.int .i64 id, .int .i64 n, .string s, .string v]) HT.out 99
   have hkI : (k : Int) < (l.length : Int) := by omega
   obtain ⟨y, hy⟩ : ∃ y, mayB place (l.take k) ⟨id, n, s, v⟩ = y := ⟨_, rfl⟩
   have HM := Lib.hid (fun (W : World) (g : Nat) (h : BStP w (some ⟨b0, o, none⟩) l b T g #[.int .i64 id, .int .i64 n, .string s, .string v] W) => mayFollow_take place id n s v l k (some ⟨b0, o, none⟩) c w.heap.size y W hk hm h.out.1.out.2.1 h.out.1.out.2.2.size hy)
   have HY := Lib.hid hy
   clear hy
   go_wp2_with fail
   obtain ⟨g, hg⟩ : ∃ g, wr.heap.size = g := ⟨_, rfl⟩
   rw [hg] at HBP ⊢
   clear hg
   generalize wr.alloc (.cells #[.int .i64 id, .int .i64 n, .string s, .string v] 99) = wa at HBP ⊢
   obtain ⟨e0, e1, e2, e3⟩ := HBP.four
   clear d0 d1 d2 d3
   have hk0 : (0 : Int) ≤ (k : Int) := by omega
   have hkc : (k : Int) ≤ (c : Int) := by omega
   go_region_held3 (fun W => W.cell? ⟨g, 0, none⟩ = some (.int .i64 id) ∧ W.cell? ⟨g, 1, none⟩ = some (.int .i64 n) ∧ W.cell? ⟨g, 2, none⟩ = some (.string s) ∧ W.cell? ⟨g, 3, none⟩ = some (.string v) ∧ BStP w (some ⟨b0, o, none⟩) l b T g #[.int .i64 id, .int .i64 n, .string s, .string v] W)
    (first | exact ⟨f0, f1, f2, f3, st⟩ | exact ⟨e0, e1, e2, e3, HBP.drewN 1⟩)
    (first | (go_at_call 112; (with_reducible refine (HM.out _ g ?_).mono ?_); (exact HBP.drewN 1); rintro e w1 ⟨rfl, hb1⟩; have st := (HBP.drewN 1).below hb1; obtain ⟨f0, f1, f2, f3⟩ := st.four))
   have HB1 := Lib.hid st
   clear e0 e1 e2 e3 HBP HM
   have NO : Hid (propsB place l = false → S = ⟨#[]⟩ ∧ E = 1) := fun hp => ⟨HS.out.symm.trans (bytes_no hp).1, HE.out.symm.trans (bytes_no hp).2⟩
   cases y with
   | false =>
    obtain ⟨hS', hE'⟩ := NO.out (HG.out.trans (HGS2.out.trans (by rw [good_may, HY.out]; rfl)))
    have HS' := Lib.hid hS'
    have HE' := Lib.hid hE'
    clear hS' hE'
    go_wp2_with fail
    go_ret2
    exact ⟨by rw [HS'.out, HE'.out]; rfl, HB1.out.out.1.out.2.2⟩
   | true =>
    obtain ⟨hkind, hone⟩ := may_kind HY.out
    cases hval : valB (kindZ id) ⟨id, n, s, v⟩ with
    | false =>
     obtain ⟨hS', hE'⟩ := NO.out (HG.out.trans (HGS2.out.trans (by rw [good_may, HY.out]; show ((true && valB (kindZ id) ⟨id, n, s, v⟩) && _) = false; rw [hval]; rfl)))
     have HS' := Lib.hid hS'
     have HE' := Lib.hid hE'
     have HO := Lib.hid (fun W => putOne_no id n s v W hkind hone hn1 (by omega) (by omega) hval)
     clear hS' hE' hkind hone hval
     go_wp2_with fail
     refine (HO.out _).mono ?_
     rintro e w2 ⟨rfl, hb2⟩
     have HB2 := Lib.hid (HB1.out.below hb2)
     clear hb1 hb2 st f0 f1 f2 f3 HO HB1
     go_wp2_with fail
     go_ret2
     exact ⟨by rw [HS'.out, HE'.out]; rfl, HB2.out.out.1.out.2.2⟩
    | true =>
     obtain ⟨U, hU⟩ : ∃ U, oneStr ⟨id, n, s, v⟩ = U := ⟨_, rfl⟩
     have hUz : U.size ≤ 2053 := by rw [← hU]; exact one_size id n s v hkind hval
     have HO := Lib.hid (fun W => putOne_yes id n s v U W hkind hn1 (by omega) hval hU)
     have HG3 := Lib.hid (HGS2.out.trans (by rw [good_may, HY.out]; show ((true && valB (kindZ id) ⟨id, n, s, v⟩) && _) = _; rw [hval]; rfl : _ = goodL place (l.take (k + 1)) (l.drop (k + 1))))
     have HR3 : Hid (restStr (l.take (k + 1)) = T ++ U) := by rw [← hU]; exact HR2.out
     clear hkind hone hval hU
     go_wp2_with fail
     refine (HO.out _).mono ?_
     rintro e w2 ⟨rfl, hb2⟩
     have HB2 := Lib.hid (HB1.out.below hb2)
     clear hb1 hb2 st f0 f1 f2 f3 HO HB1
     go_wp2_with (go_at_call 64; refine (WriteString_is w.heap.size b T U _ HB2.out.out.1.out.1 (by omega) HB2.out.out.1.out.2.2.size).mono ?_; rintro e w3 ⟨⟨z, rfl⟩, hbu, hb3⟩)
     have HB3 := Lib.hid (HB2.out.out.1.write hbu hb3)
     clear hbu hb3 HB2
     go_roundw
     case rel => exact ⟨k + 1, hlt, by go_num, by rw [HR3.out]; exact HB3.out, HG3.out, by rw [HR3.out, ByteArray.size_append]; have := HZ.out; omega⟩
     case measure => simp [RowKit.intOf]; omega
  ·obtain rfl : k = l.length := by omega
   have hgo : goodL place [] l = true := by have := HGD.out; rw [List.drop_length] at this; exact this
   have hp : propsB place l = true := HG.out.trans hgo
   have hst := HT.out
   rw [List.take_length] at hst hsz2
   have HT2 := Lib.hid hst
   obtain ⟨R, hR⟩ : ∃ R, restStr l = R := ⟨_, rfl⟩
   rw [hR] at HT2 hsz2
   obtain ⟨N, hN⟩ : ∃ N, strOfNums (numZ R.size) = N := ⟨_, rfl⟩
   have hNz : N.size ≤ 4 := by rw [← hN, strOfNums_size, numZ_len (by omega)]; exact (numLen_le _).2
   have HN := Lib.hid (fun W => Num_is (R.size : Int) N 0 W (by
    rcases numErr_cases (R.size : Int) with ⟨_, _, _, e⟩ | ⟨h0, _⟩
    ·rw [e, Int.toNat_natCast, hN]
    ·omega) (by
    rcases numErr_cases (R.size : Int) with ⟨_, _, e, _⟩ | ⟨h0, _⟩
    ·exact e
    ·omega))
   have HS' : Hid (S = N ++ R) := HS.out.symm.trans ((bytes_yes hp).1.trans (by unfold propStr; rw [hR, hN]))
   have HE' : Hid (E = 0) := HE.out.symm.trans (bytes_yes hp).2
   clear hgo hp hst hR hN HT HGD HZ
   go_wp2_with (go_at_call 114; refine (Len_is w.heap.size b R _ HT2.out.out.1).mono ?_; rintro e w' ⟨rfl, rfl⟩)
   refine (HN.out _).mono ?_
   rintro e w4 ⟨rfl, hb4⟩
   have HT3 := Lib.hid (HT2.out.below hb4)
   clear hb4 HT2 HN
   go_wp2_with (go_at_call 65; refine (String_is w.heap.size b R _ HT3.out.out.1 HT3.out.out.2.2.size).mono ?_; rintro e w5 ⟨rfl, hb5⟩)
   go_ret2
   exact ⟨by rw [HS'.out, HE'.out]; rfl, HT3.out.out.2.2.trans hb5⟩
end Go.Proofs.YtdbbcfohjkgdcaaGreat
