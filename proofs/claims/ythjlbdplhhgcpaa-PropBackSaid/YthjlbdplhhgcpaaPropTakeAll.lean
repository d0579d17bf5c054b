/- Package prop: all properties are taken, one behind the other. -/
import Derived.Test.YthjlbdplhhgcpaaPropTakeOne
import Derived.Test.YthjlbdplhhgcpaaPropMay
import Derived.Test.YthjlbdplhhgcpaaPropCopy
import Derived.Test.YthjlbdplhhgcpaaInRegion
namespace Go.Proofs.Ythjlbdplhhgcpaa
open Go.RowKit Go.Lib Prp Vbi

def strSz : Value → Nat
  | .string s => s.size
  | _ => 0
theorem strSz_eq (s : ByteArray) : strSz (.string s) = s.size := rfl
/-- A row of the call's own; what was there ahead of the call. -/
@[irreducible] def TA (w : World) (A : Option Addr) (c : Nat) (l : List P) (W : World) : Prop := W.ownsRow w.heap.size 48 4 (.slice A l.length c) l.length (flat l) ∧ Below w.heap.size w W
section
variable {w W W' : World} {A : Option Addr} {c : Nat} {l : List P}
theorem TA.mk (h1 : W.ownsRow w.heap.size 48 4 (.slice A l.length c) l.length (flat l)) (h2 : Below w.heap.size w W) : TA w A c l W := by unfold TA; exact ⟨h1, h2⟩
theorem TA.out (h : TA w A c l W) : W.ownsRow w.heap.size 48 4 (.slice A l.length c) l.length (flat l) ∧ Below w.heap.size w W := by unfold TA at h; exact h
theorem TA.below (h : TA w A c l W) (hb : Below W.heap.size W W') : TA w A c l W' := .mk (own_below h.out.1 hb) (h.out.2.trans (hb.mono h.out.2.size))
theorem TA.nil (w : World) : TA w none 0 [] w := .mk (World.ownsRow_nil _ _ _ _) (Below.refl _ _)
theorem TA.at (h : TA w A c l W) : PropsAt W W.heap.size A l := .of_own h.out.1
end
/-- The row, and a block of the call's own. -/
@[irreducible] def TB (w : World) (A : Option Addr) (c : Nat) (l : List P) (g : Nat) (cs : Array Value) (W : World) : Prop := TA w A c l W ∧ Box W g cs
section
variable {w W W' : World} {A : Option Addr} {c g : Nat} {l : List P} {cs : Array Value}
theorem TB.mk (h1 : TA w A c l W) (h2 : Box W g cs) : TB w A c l g cs W := by unfold TB; exact ⟨h1, h2⟩
theorem TB.out (h : TB w A c l g cs W) : TA w A c l W ∧ Box W g cs := by unfold TB at h; exact h
theorem TB.below (h : TB w A c l g cs W) (hb : Below W.heap.size W W') : TB w A c l g cs W' := .mk (h.out.1.below hb) (h.out.2.below hb)
theorem TB.drewN (h : TB w A c l g cs W) (n : Nat) : TB w A c l g cs (W.drewN n) := h.below (below_drewN (Below.refl _ _) n)
theorem TB.new (h : TA w A c l W) (T : TypeId) (cs : Array Value) : TB w A c l W.heap.size cs (W.alloc (.cells cs T)) := .mk (h.below ((Below.refl _ _).alloc (Nat.le_refl _) _)) (.new W T cs)
end
theorem TB.four {w W : World} {A : Option Addr} {c g : Nat} {l : List P} {a b : Int} {s v : ByteArray} (h : TB w A c l g #[.int .i64 a, .int .i64 b, .string s, .string v] W) :
    W.cell? ⟨g, 0, none⟩ = some (.int .i64 a) ∧ W.cell? ⟨g, 1, none⟩ = some (.int .i64 b) ∧ W.cell? ⟨g, 2, none⟩ = some (.string s) ∧ W.cell? ⟨g, 3, none⟩ = some (.string v) :=
  ⟨h.out.2.cell 0, h.out.2.cell 1, h.out.2.cell 2, h.out.2.cell 3⟩
/-- What all are taken as. -/
def GivesAll (l : List P) (E : Int) (w : World) (e : Ending) (w' : World) : Prop := ∃ A c, e = .returned (.tuple #[.slice A l.length c, .int .i64 E]) ∧ TA w A c l w'

set_option maxRecDepth 100000 in
set_option maxHeartbeats 8000000 in
theorem takeAll_is (place : Int) (s : ByteArray) (f0 : Nat) (L : List P) (E : Int) (w : World) (hs : s.size ≤ 281474976710656) (hf : s.size < f0) (h : ta place f0 [] s = (L, E)) :
    Calls Try.prog 41 #[.int .i64 place, .string s] w (GivesAll L E w) := by
  obtain ⟨i0, hi, hz0, hz1, hz2⟩ := info_parts info_prop
  have H := Lib.hid h
  clear h
  go_enter Try.func41, Try.ntmps41
  go_wp2_with fail
  go_loopw [1, 6] (fun x m wr => ∃ (S : ByteArray) (l : List P) (f : Nat) (A : Option Addr) (c : Nat), x = .string S ∧ m = .slice A l.length c ∧ TA w A c l wr ∧ l.length ≤ 8 ∧ S.size ≤ 281474976710656 ∧ S.size < f ∧ ta place f l S = (L, E)) (fun x _ _ => strSz x)
  case atStart => exact ⟨s, [], f0, none, 0, rfl, rfl, .nil w, by simp, hs, hf, H.out⟩
  case round =>
    obtain ⟨S, l, f, A, c, rfl, rfl, hta, hl8, hS, hSf, hgo⟩ := hrel
    have HT := Lib.hid hta
    have HG := Lib.hid hgo
    clear hta hgo H
    obtain ⟨f, rfl⟩ : ∃ f0, f = f0 + 1 := ⟨f - 1, by omega⟩
    by_cases h0 : S.size = 0
    · obtain ⟨rfl, rfl⟩ : l = L ∧ (0 : Int) = E := by
        have := (ta_end (place := place) (f := f) (l := l) h0).symm.trans HG.out
        injection this with e1 e2
        exact ⟨e1, e2⟩
      obtain rfl : S = ByteArray.empty := ByteArray.size_eq_zero_iff.1 h0
      go_wp2_with fail
      go_ret2
      exact ⟨A, c, rfl, HT.out⟩
    have hSI : (0 : Int) < (S.size : Int) := by omega
    obtain ⟨⟨i, n, a, b⟩, K, T, ht⟩ : ∃ p K T, tone S = (p, K, T) := ⟨_, _, _, rfl⟩
    have HO := Lib.hid (fun W => takeOne_is S a b i n K T W (by omega) hS ht)
    have HTO := Lib.hid ht
    clear ht
    go_wp2_with fail
    refine (HO.out _).mono ?_
    rintro e w1 ⟨rfl, hb1⟩
    have HT1 := Lib.hid (HT.out.below hb1)
    clear hb1 HT HO
    by_cases hT : T = 0
    · subst hT
      have HTB := Lib.hid (TB.new HT1.out 48 #[.int .i64 i, .int .i64 n, .string a, .string b])
      clear HT1
      obtain ⟨j, rfl, hj1, hj2⟩ : ∃ j : Nat, K = (j : Int) ∧ 1 ≤ j ∧ j ≤ S.size := by
        have := tone_bound (s := S) (by omega) (by rw [HTO.out])
        rw [HTO.out] at this
        have h1 : 1 ≤ K := this.1
        have h2 : K ≤ (S.size : Int) := this.2
        exact ⟨K.toNat, by omega, by omega, by omega⟩
      obtain ⟨y, hy⟩ : ∃ y, mayB place l ⟨i, n, a, b⟩ = y := ⟨_, rfl⟩
      have HM := Lib.hid (fun (W : World) (g : Nat) (h : TB w A c l g #[.int .i64 i, .int .i64 n, .string a, .string b] W) => mayFollow_is place i n a b l A c y W (by omega) h.out.1.at hy)
      have HY := Lib.hid hy
      clear hy
      have hjS : (j : Int) ≤ (S.size : Int) := by omega
      have hj0 : (0 : Int) ≤ (j : Int) := by omega
      have HTB2 := HTB.out
      obtain ⟨g, hg⟩ : ∃ g, w1.heap.size = g := ⟨_, rfl⟩
      rw [hg] at HTB2
      clear HTB
      have HTB := Lib.hid HTB2
      clear HTB2
      go_wp2_with fail
      refine (HM.out _ g HTB.out).mono ?_
      rintro e w2 ⟨rfl, hb2⟩
      have HT2 := Lib.hid (HTB.out.below hb2)
      clear hb2 HTB HM hg
      cases y with
      | false =>
        obtain ⟨rfl, rfl⟩ : [] = L ∧ (9 : Int) = E := by
          have := (ta_no (place := place) (f := f) (l := l) h0 (by rw [HTO.out]) (by rw [HTO.out]; exact HY.out)).symm.trans HG.out
          injection this with e1 e2
          exact ⟨e1, e2⟩
        clear HG HTO HY
        go_wp2_with fail
        go_ret2
        exact ⟨none, 0, rfl, .mk (World.ownsRow_nil _ _ _ _) HT2.out.out.1.out.2⟩
      | true =>
        by_cases h8 : l.length = 8
        · obtain ⟨rfl, rfl⟩ : [] = L ∧ (2 : Int) = E := by
            have := (ta_full (place := place) (f := f) (l := l) h0 (by rw [HTO.out]) (by rw [HTO.out]; exact HY.out) h8).symm.trans HG.out
            injection this with e1 e2
            exact ⟨e1, e2⟩
          have h8I : (l.length : Int) = 8 := by omega
          clear HG HTO HY
          go_wp2_with fail
          go_ret2
          exact ⟨none, 0, rfl, .mk (World.ownsRow_nil _ _ _ _) HT2.out.out.1.out.2⟩
        · have HG2 : Hid (ta place f (l ++ [⟨i, n, a, b⟩]) (S.extract j S.size) = (L, E)) := by
            have := (ta_step (place := place) (f := f) (l := l) h0 (by rw [HTO.out]) (by rw [HTO.out]; exact HY.out) h8).symm.trans HG.out
            rw [HTO.out] at this
            exact this
          have h8b : ((l.length : Int) == 8) = false := ne_false (by omega)
          obtain ⟨c0, c1, c2, c3⟩ := HT2.out.four
          have HS : Hid (flat (l ++ [⟨i, n, a, b⟩]) = flat l ++ pcells ⟨i, n, a, b⟩) := flat_snoc _ _
          clear HG HTO HY
          go_wp2_with (at_builtin; refine wpList_append_own _ rfl _ _ 23 rfl w.heap.size 48 i0 (.agg #[.int .i64 0, .int .i64 0, .string ⟨#[]⟩, .string ⟨#[]⟩]) 4 48 Try.underlying23 hi hz0 hz1 hz2 rfl (by decide) _ _ _ rfl (HT2.out.out.1.out.1.alloc _) ⟨w2.heap.size, 0, none⟩ 1 1 (pcells ⟨i, n, a, b⟩) rfl rfl ?c1 ?c2 ?c3 ?c4 ?c5 ?_)
          case c1 => exact fun j u h => cells_new w2 _ (pcells ⟨i, n, a, b⟩) j u h
          case c2 => exact one_cells _
          case c3 => unfold maxLen; omega
          case c4 => first | omega | (have := HT2.out.out.1.out.2.size; simp; omega)
          case c5 => have := HT2.out.out.1.out.2.size; simp; omega
          intro v' w3 hown' hgrow _
          have hnx := HT2.out.out.1.out.2.trans (below_alloc_grown HT2.out.out.1.out.2.size HT2.out.out.1.out.1 hgrow)
          have hown2 : w3.ownsRow w.heap.size 48 4 v' (l ++ [(⟨i, n, a, b⟩ : P)]).length (flat (l ++ [⟨i, n, a, b⟩])) := by
            rw [HS.out, List.length_append]; exact hown'
          obtain ⟨A', c', rfl⟩ := own_slice hown2
          have HT3 := Lib.hid (TA.mk hown2 hnx)
          clear hown' hgrow hnx hown2 HT2 HS c0 c1 c2 c3
          go_wp2_with fail
          go_roundw
          case rel => exact ⟨_, _, f, A', c', rfl, rfl, HT3.out, by rw [List.length_append]; show _ + 1 ≤ 8; omega, by rw [ByteArray.size_extract]; omega, by rw [ByteArray.size_extract]; omega, HG2.out⟩
          case measure => show (S.extract j S.size).size < S.size; rw [ByteArray.size_extract]; omega
    · obtain ⟨rfl, rfl⟩ : [] = L ∧ T = E := by
        have := (ta_bad (place := place) (f := f) (l := l) h0 (by rw [HTO.out]; exact hT)).symm.trans HG.out
        rw [HTO.out] at this
        injection this with e1 e2
        exact ⟨e1, e2⟩
      have hTb := ne_true hT
      clear HG HTO
      go_wp2_with fail
      go_ret2
      exact ⟨none, 0, rfl, .mk (World.ownsRow_nil _ _ _ _) (HT1.out.below ((Below.refl _ _).alloc (Nat.le_refl _) _)).out.2⟩
end Go.Proofs.Ythjlbdplhhgcpaa
