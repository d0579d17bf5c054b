/- Package pack: the bytes of a part. -/
import Derived.Test.YtiancngpknnkaaaGreatB15
import Derived.Test.YtiancngpknnkaaaGreatB10
import Derived.Test.YtiancngpknnkaaaGreatB14
import Derived.Test.YtiancngpknnkaaaGreatB07
import Derived.Test.YtiancngpknnkaaaGreatB02
set_option maxRecDepth 100000
set_option maxHeartbeats 64000000
namespace Go.Proofs.YtiancngpknnkaaaGreat
open Go.RowKit Go.Lib Prp Vbi
open Go.RowKit Go.Lib Prp
@[irreducible] def RSt (w : World) (A : Option Addr) (l : List P) (W : World) : Prop := PropsAt W w.heap.size A l ∧ Below w.heap.size w W
section
variable {w W W' : World} {A : Option Addr} {l : List P}
theorem RSt.mk (h1 : PropsAt W w.heap.size A l) (h2 : Below w.heap.size w W) : RSt w A l W := by unfold RSt; exact ⟨h1, h2⟩
theorem RSt.out (h : RSt w A l W) : PropsAt W w.heap.size A l ∧ Below w.heap.size w W := by unfold RSt at h; exact h
theorem RSt.below (h : RSt w A l W) (hb : Below W.heap.size W W') : RSt w A l W' := .mk (h.out.1.below (hb.mono h.out.2.size)) (h.out.2.trans (hb.mono h.out.2.size))
theorem RSt.drewN (h : RSt w A l W) (n : Nat) : RSt w A l (W.drewN n) := h.below (below_drewN (Below.refl _ _) n)
theorem RSt.cells {b o : Nat} (h : RSt w (some ⟨b, o, none⟩) l W) (k : Nat) (hk : k < l.length) : PAt W b (o + k * 4) l[k] := by
  obtain ⟨b', o', e, _, hc⟩ := h.out.1.some_ (by omega)
  injection e with e
  injection e with e1 e2
  subst e1 e2
  exact hc k hk
end
open Go.RowKit Go.Lib Prp Vbi
@[irreducible] def RStP (w : World) (A : Option Addr) (l : List P) (g : Nat) (cs : Array Value) (W : World) : Prop := RSt w A l W ∧ Box W g cs
section
variable {w W W' : World} {A : Option Addr} {l : List P} {g : Nat} {cs : Array Value}
theorem RStP.mk (h1 : RSt w A l W) (h2 : Box W g cs) : RStP w A l g cs W := by unfold RStP; exact ⟨h1, h2⟩
theorem RStP.out (h : RStP w A l g cs W) : RSt w A l W ∧ Box W g cs := by unfold RStP at h; exact h
theorem RStP.below (h : RStP w A l g cs W) (hb : Below W.heap.size W W') : RStP w A l g cs W' := .mk (h.out.1.below hb) (h.out.2.below hb)
theorem RStP.drewN (h : RStP w A l g cs W) (n : Nat) : RStP w A l g cs (W.drewN n) := h.below (below_drewN (Below.refl _ _) n)
theorem RSt.alloc (h : RSt w A l W) (o : Obj) : RSt w A l (W.alloc o) := h.below ((Below.refl _ _).alloc (Nat.le_refl _) o)
theorem RStP.alloc (h : RStP w A l g cs W) (o : Obj) : RStP w A l g cs (W.alloc o) := h.below ((Below.refl _ _).alloc (Nat.le_refl _) o)
theorem RStP.new (h : RSt w A l W) (T : TypeId) : RStP w A l W.heap.size cs (W.alloc (.cells cs T)) := .mk (h.alloc _) (.new W T cs)
end
theorem RStP.four {w W : World} {A : Option Addr} {l : List P} {g : Nat} {x y : Int} {s v : ByteArray} (h : RStP w A l g #[.int .i64 x, .int .i64 y, .string s, .string v] W) :
    W.cell? ⟨g, 0, none⟩ = some (.int .i64 x) ∧ W.cell? ⟨g, 1, none⟩ = some (.int .i64 y) ∧ W.cell? ⟨g, 2, none⟩ = some (.string s) ∧ W.cell? ⟨g, 3, none⟩ = some (.string v) :=
  ⟨h.out.2.cell 0, h.out.2.cell 1, h.out.2.cell 2, h.out.2.cell 3⟩
open Go.RowKit Go.Lib Prp Pkt Vbi Txt
def PV (W : World) (B : Nat) (v : Value) : Part → Prop
  | .octet n => v = .iface 114 (.int .i64 n)
  | .short n => v = .iface 141 (.int .i64 n) ∧ n ≤ 9223372036854775807
  | .number n => v = .iface 119 (.int .i64 n) ∧ n ≤ 9223372036854775807
  | .words s => v = .iface 118 (.string s) ∧ s.size ≤ 140737488351232
  | .sized s => v = .iface 146 (.string s) ∧ s.size ≤ 140737488351232
  | .props k l => ∃ A c, v = .iface 117 (.agg #[.int .i64 k, .slice A l.length c]) ∧ PropsAt W B A l ∧ l.length ≤ 9223372036854775807 ∧ l.length ≤ c ∧ ∀ p ∈ l, Fit p
  | .raw s => v = .iface 9 (.string s) ∧ s.size ≤ 140737488351232
theorem PV.below {W W' : World} {B : Nat} {v : Value} {x : Part} (h : PV W B v x) (hb : Below B W W') : PV W' B v x := by
  cases x with
  | props k l =>
    obtain ⟨A, c, h1, h2, h3⟩ := h
    exact ⟨A, c, h1, h2.below hb, h3⟩
  | _ => exact h
theorem PV.mono {W : World} {B B' : Nat} {v : Value} {x : Part} (h : PV W B v x) (hB : B ≤ B') : PV W B' v x := by
  cases x with
  | props k l =>
    obtain ⟨A, c, h1, h2, h3⟩ := h
    exact ⟨A, c, h1, h2.mono hB, h3⟩
  | _ => exact h
theorem PV.one {W : World} {B : Nat} {v : Value} {x : Part} (h : PV W B v x) : v.oneCell' = true := by
  cases x with
  | octet n => obtain rfl := h; rfl
  | short n => obtain ⟨rfl, _⟩ := h; rfl
  | number n => obtain ⟨rfl, _⟩ := h; rfl
  | words s => obtain ⟨rfl, _⟩ := h; rfl
  | sized s => obtain ⟨rfl, _⟩ := h; rfl
  | props k l => obtain ⟨A, c, rfl, _⟩ := h; rfl
  | raw s => obtain ⟨rfl, _⟩ := h; rfl
theorem as_octet (v : Value) (w : World) : (Instr.typeAssert (.iface 114 v) 20 114 true).run Tryz.prog w = .ok (.tuple #[v, .bool true]) w := by kernel_rfl
theorem as_short_octet (v : Value) (w : World) : (Instr.typeAssert (.iface 141 v) 20 114 true).run Tryz.prog w = .ok (.tuple #[.int .i64 0, .bool false]) w := by kernel_rfl
theorem as_short (v : Value) (w : World) : (Instr.typeAssert (.iface 141 v) 20 141 true).run Tryz.prog w = .ok (.tuple #[v, .bool true]) w := by kernel_rfl
theorem as_number_octet (v : Value) (w : World) : (Instr.typeAssert (.iface 119 v) 20 114 true).run Tryz.prog w = .ok (.tuple #[.int .i64 0, .bool false]) w := by kernel_rfl
theorem as_number_short (v : Value) (w : World) : (Instr.typeAssert (.iface 119 v) 20 141 true).run Tryz.prog w = .ok (.tuple #[.int .i64 0, .bool false]) w := by kernel_rfl
theorem as_number (v : Value) (w : World) : (Instr.typeAssert (.iface 119 v) 20 119 true).run Tryz.prog w = .ok (.tuple #[v, .bool true]) w := by kernel_rfl
theorem as_words_octet (v : Value) (w : World) : (Instr.typeAssert (.iface 118 v) 20 114 true).run Tryz.prog w = .ok (.tuple #[.int .i64 0, .bool false]) w := by kernel_rfl
theorem as_words_short (v : Value) (w : World) : (Instr.typeAssert (.iface 118 v) 20 141 true).run Tryz.prog w = .ok (.tuple #[.int .i64 0, .bool false]) w := by kernel_rfl
theorem as_words_number (v : Value) (w : World) : (Instr.typeAssert (.iface 118 v) 20 119 true).run Tryz.prog w = .ok (.tuple #[.int .i64 0, .bool false]) w := by kernel_rfl
theorem as_words (v : Value) (w : World) : (Instr.typeAssert (.iface 118 v) 20 118 true).run Tryz.prog w = .ok (.tuple #[v, .bool true]) w := by kernel_rfl
theorem as_sized_octet (v : Value) (w : World) : (Instr.typeAssert (.iface 146 v) 20 114 true).run Tryz.prog w = .ok (.tuple #[.int .i64 0, .bool false]) w := by kernel_rfl
theorem as_sized_short (v : Value) (w : World) : (Instr.typeAssert (.iface 146 v) 20 141 true).run Tryz.prog w = .ok (.tuple #[.int .i64 0, .bool false]) w := by kernel_rfl
theorem as_sized_number (v : Value) (w : World) : (Instr.typeAssert (.iface 146 v) 20 119 true).run Tryz.prog w = .ok (.tuple #[.int .i64 0, .bool false]) w := by kernel_rfl
theorem as_sized_words (v : Value) (w : World) : (Instr.typeAssert (.iface 146 v) 20 118 true).run Tryz.prog w = .ok (.tuple #[.string ByteArray.empty, .bool false]) w := by kernel_rfl
theorem as_sized (v : Value) (w : World) : (Instr.typeAssert (.iface 146 v) 20 146 true).run Tryz.prog w = .ok (.tuple #[v, .bool true]) w := by kernel_rfl
theorem as_list_octet (v : Value) (w : World) : (Instr.typeAssert (.iface 117 v) 20 114 true).run Tryz.prog w = .ok (.tuple #[.int .i64 0, .bool false]) w := by kernel_rfl
theorem as_list_short (v : Value) (w : World) : (Instr.typeAssert (.iface 117 v) 20 141 true).run Tryz.prog w = .ok (.tuple #[.int .i64 0, .bool false]) w := by kernel_rfl
theorem as_list_number (v : Value) (w : World) : (Instr.typeAssert (.iface 117 v) 20 119 true).run Tryz.prog w = .ok (.tuple #[.int .i64 0, .bool false]) w := by kernel_rfl
theorem as_list_words (v : Value) (w : World) : (Instr.typeAssert (.iface 117 v) 20 118 true).run Tryz.prog w = .ok (.tuple #[.string ByteArray.empty, .bool false]) w := by kernel_rfl
theorem as_list_sized (v : Value) (w : World) : (Instr.typeAssert (.iface 117 v) 20 146 true).run Tryz.prog w = .ok (.tuple #[.string ByteArray.empty, .bool false]) w := by kernel_rfl
theorem as_list (v : Value) (w : World) : (Instr.typeAssert (.iface 117 v) 20 117 true).run Tryz.prog w = .ok (.tuple #[v, .bool true]) w := by kernel_rfl
theorem as_string_octet (v : Value) (w : World) : (Instr.typeAssert (.iface 9 v) 20 114 true).run Tryz.prog w = .ok (.tuple #[.int .i64 0, .bool false]) w := by kernel_rfl
theorem as_string_short (v : Value) (w : World) : (Instr.typeAssert (.iface 9 v) 20 141 true).run Tryz.prog w = .ok (.tuple #[.int .i64 0, .bool false]) w := by kernel_rfl
theorem as_string_number (v : Value) (w : World) : (Instr.typeAssert (.iface 9 v) 20 119 true).run Tryz.prog w = .ok (.tuple #[.int .i64 0, .bool false]) w := by kernel_rfl
theorem as_string_words (v : Value) (w : World) : (Instr.typeAssert (.iface 9 v) 20 118 true).run Tryz.prog w = .ok (.tuple #[.string ByteArray.empty, .bool false]) w := by kernel_rfl
theorem as_string_sized (v : Value) (w : World) : (Instr.typeAssert (.iface 9 v) 20 146 true).run Tryz.prog w = .ok (.tuple #[.string ByteArray.empty, .bool false]) w := by kernel_rfl
theorem as_string_list (v : Value) (w : World) : (Instr.typeAssert (.iface 9 v) 20 117 true).run Tryz.prog w = .ok (.tuple #[.agg #[.int .i64 0, .slice none 0 0], .bool false]) w := by kernel_rfl
theorem to_string (v : Value) (w : World) : (Instr.typeAssert (.iface 9 v) 20 9 false).run Tryz.prog w = .ok v w := by kernel_rfl
theorem octet_yes (n : Int) (S : ByteArray) (w : World) (h0 : 0 ≤ n) (h1 : n ≤ 255) (hS : strOfNums [n] = S) :
    Calls Tryz.prog 105 #[.int .i64 n] w fun e w' => e = .returned (.tuple #[.string S, .int .i64 0]) ∧ Below w.heap.size w w' := by
  have HS := Lib.hid hS
  clear hS
  have hcv := conv_byte n
  have hz : IntKind.u8.wrap n = n := by unfold IntKind.wrap; simp [IntKind.bits, IntKind.signed]; omega
  have d0 : decide (n < 0) = false := decide_eq_false (by omega)
  have d1 : decide (255 < n) = false := decide_eq_false (by omega)
  go_enter Tryz.func105, Tryz.ntmps105
  go_wp2_with fail
  go_ret2
  exact ⟨by rw [← HS.out]; rfl, (Below.refl _ _).alloc (Nat.le_refl _) _⟩
theorem octet_no (n : Int) (w : World) (h : ¬ (0 ≤ n ∧ n ≤ 255)) :
    Calls Tryz.prog 105 #[.int .i64 n] w fun e w' => e = .returned (.tuple #[.string ⟨#[]⟩, .int .i64 1]) ∧ w = w' := by
  by_cases h0 : n < 0
  · have d0 : decide (n < 0) = true := decide_eq_true h0
    clear h
    go_enter Tryz.func105, Tryz.ntmps105
    go_wp2_with fail
    go_ret2
    exact ⟨rfl, rfl⟩
  · have d0 : decide (n < 0) = false := decide_eq_false h0
    have d1 : decide (255 < n) = true := decide_eq_true (by omega)
    clear h
    go_enter Tryz.func105, Tryz.ntmps105
    go_wp2_with fail
    go_ret2
    exact ⟨rfl, rfl⟩
theorem number_yes (n : Int) (S : ByteArray) (w : World) (h0 : 1 ≤ n) (h1 : n < 65536) (hS : fxStr n = S) :
    Calls Tryz.prog 107 #[.int .i64 n] w fun e w' => e = .returned (.tuple #[.string S, .int .i64 0]) ∧ Below w.heap.size w w' := by
  have HT := Lib.hid (fun W => Two_is n S 0 W (by omega) ((fix_yes (wd := 2) (x := n) (by omega) (by omega)).2.trans hS) (fix_yes (wd := 2) (x := n) (by omega) (by omega)).1)
  have e0 : (n == 0) = false := ne_false (by omega)
  clear hS
  go_enter Tryz.func107, Tryz.ntmps107
  go_wp2_with (go_at_call 106; refine (HT.out _).mono ?_; rintro e w1 ⟨rfl, hb⟩)
  go_ret2
  exact ⟨rfl, hb⟩
theorem number_no (n : Int) (w : World) (hn : n ≤ 9223372036854775807) (h : ¬ (1 ≤ n ∧ n < 65536)) :
    Calls Tryz.prog 107 #[.int .i64 n] w (Wrong w) := by
  by_cases h0 : n = 0
  · subst h0
    clear h
    go_enter Tryz.func107, Tryz.ntmps107
    go_wp2_with fail
    go_ret2
    exact ⟨_, _, rfl, by decide, Below.refl _ _⟩
  · obtain ⟨S, hS⟩ : ∃ S, fixStr 2 n = S := ⟨_, rfl⟩
    have HT := Lib.hid (fun W => Two_is n S 2 W hn hS (fix_no (wd := 2) (x := n) (by omega)))
    have e0 : (n == 0) = false := ne_false h0
    clear hS h h0
    go_enter Tryz.func107, Tryz.ntmps107
    go_wp2_with (go_at_call 106; refine (HT.out _).mono ?_; rintro e w1 ⟨rfl, hb⟩)
    go_ret2
    exact ⟨_, _, rfl, by decide, hb⟩
open Go.RowKit Go.Lib Prp Pkt Vbi Txt
theorem Bin_yes (s S : ByteArray) (w : World) (h : binB s = true) (hS : lgStr s = S) :
    Calls Tryz.prog 109 #[.string s] w fun e w' => e = .returned (.tuple #[.string S, .int .i64 0]) ∧ Below w.heap.size w w' := by
  have hz : s.size ≤ 1024 := of_decide_eq_true h
  exact Bin_is s S 0 w (by unfold binStr; rw [if_neg (by omega)]; exact hS) (by unfold binErr; rw [if_neg (by omega)])
theorem Bin_no (s : ByteArray) (w : World) (h : binB s = false) : Calls Tryz.prog 109 #[.string s] w (Wrong w) := by
  have hz : ¬ s.size ≤ 1024 := of_decide_eq_false h
  exact (Bin_is s _ 2 w rfl (by unfold binErr; rw [if_pos (by omega)])).mono fun _ _ ⟨h1, h2⟩ => ⟨_, _, h1, by decide, h2⟩
theorem put_octet_yes (n : Int) (S : ByteArray) (w : World) (h : 0 ≤ n ∧ n ≤ 255) (hS : strOfNums [n] = S) :
    Calls Tryz.prog 78 #[.iface 114 (.int .i64 n)] w (fun e w' => e = .returned (.tuple #[.string S, .int .i64 0]) ∧ Below w.heap.size w w') := by
  have HC := Lib.hid (fun (W : World) => (octet_yes n S W h.1 h.2 hS : Calls Tryz.prog 105 #[.int .i64 n] W (fun e w' => e = .returned (.tuple #[.string S, .int .i64 0]) ∧ Below W.heap.size W w')))
  have b0 := as_octet
  clear h hS
  go_enter Tryz.func78, Tryz.ntmps78
  go_wp2_with (go_at_call 105; refine (HC.out _).mono ?_; rintro e w1 ⟨rfl, hb⟩)
  go_ret2
  exact ⟨rfl, hb⟩
theorem put_octet_no (n : Int) (w : World) (h : ¬ (0 ≤ n ∧ n ≤ 255)) :
    Calls Tryz.prog 78 #[.iface 114 (.int .i64 n)] w (Wrong w) := by
  have HC := Lib.hid (fun (W : World) => ((octet_no n W h).mono fun _ _ ⟨h1, h2⟩ => ⟨_, _, h1, by decide, by rw [h2]; exact Below.refl _ _⟩ : Calls Tryz.prog 105 #[.int .i64 n] W (Wrong W)))
  have b0 := as_octet
  clear h
  go_enter Tryz.func78, Tryz.ntmps78
  go_wp2_with (go_at_call 105; refine (HC.out _).mono ?_; rintro e w1 ⟨S, E, rfl, hE, hb⟩; have hE2 := Lib.hid hE; clear hE)
  go_ret2
  exact ⟨S, E, rfl, hE2.out, hb⟩
theorem put_short_yes (n : Int) (S : ByteArray) (w : World) (h : 0 ≤ n ∧ n < 65536) (hS : fxStr n = S) :
    Calls Tryz.prog 78 #[.iface 141 (.int .i64 n)] w (fun e w' => e = .returned (.tuple #[.string S, .int .i64 0]) ∧ Below w.heap.size w w') := by
  have HC := Lib.hid (fun (W : World) => (Two_is n S 0 W (by omega) ((fix_yes (wd := 2) (x := n) (by omega) (by omega)).2.trans hS) (fix_yes (wd := 2) (x := n) (by omega) (by omega)).1 : Calls Tryz.prog 106 #[.int .i64 n] W (fun e w' => e = .returned (.tuple #[.string S, .int .i64 0]) ∧ Below W.heap.size W w')))
  have a0 := as_short_octet
  have b0 := as_short
  clear h hS
  go_enter Tryz.func78, Tryz.ntmps78
  go_wp2_with (go_at_call 106; refine (HC.out _).mono ?_; rintro e w1 ⟨rfl, hb⟩)
  go_ret2
  exact ⟨rfl, hb⟩
theorem put_short_no (n : Int) (hn : n ≤ 9223372036854775807) (w : World) (h : ¬ (0 ≤ n ∧ n < 65536)) :
    Calls Tryz.prog 78 #[.iface 141 (.int .i64 n)] w (Wrong w) := by
  have HC := Lib.hid (fun (W : World) => ((Two_is n _ 2 W hn rfl (fix_no (wd := 2) (x := n) h)).mono fun _ _ ⟨h1, h2⟩ => ⟨_, _, h1, by decide, h2⟩ : Calls Tryz.prog 106 #[.int .i64 n] W (Wrong W)))
  have a0 := as_short_octet
  have b0 := as_short
  clear h hn
  go_enter Tryz.func78, Tryz.ntmps78
  go_wp2_with (go_at_call 106; refine (HC.out _).mono ?_; rintro e w1 ⟨S, E, rfl, hE, hb⟩; have hE2 := Lib.hid hE; clear hE)
  go_ret2
  exact ⟨S, E, rfl, hE2.out, hb⟩
theorem put_number_yes (n : Int) (S : ByteArray) (w : World) (h : 1 ≤ n ∧ n < 65536) (hS : fxStr n = S) :
    Calls Tryz.prog 78 #[.iface 119 (.int .i64 n)] w (fun e w' => e = .returned (.tuple #[.string S, .int .i64 0]) ∧ Below w.heap.size w w') := by
  have HC := Lib.hid (fun (W : World) => (number_yes n S W h.1 h.2 hS : Calls Tryz.prog 107 #[.int .i64 n] W (fun e w' => e = .returned (.tuple #[.string S, .int .i64 0]) ∧ Below W.heap.size W w')))
  have a0 := as_number_octet
  have a1 := as_number_short
  have b0 := as_number
  clear h hS
  go_enter Tryz.func78, Tryz.ntmps78
  go_wp2_with (go_at_call 107; refine (HC.out _).mono ?_; rintro e w1 ⟨rfl, hb⟩)
  go_ret2
  exact ⟨rfl, hb⟩
theorem put_number_no (n : Int) (hn : n ≤ 9223372036854775807) (w : World) (h : ¬ (1 ≤ n ∧ n < 65536)) :
    Calls Tryz.prog 78 #[.iface 119 (.int .i64 n)] w (Wrong w) := by
  have HC := Lib.hid (fun (W : World) => (number_no n W hn h : Calls Tryz.prog 107 #[.int .i64 n] W (Wrong W)))
  have a0 := as_number_octet
  have a1 := as_number_short
  have b0 := as_number
  clear h hn
  go_enter Tryz.func78, Tryz.ntmps78
  go_wp2_with (go_at_call 107; refine (HC.out _).mono ?_; rintro e w1 ⟨S, E, rfl, hE, hb⟩; have hE2 := Lib.hid hE; clear hE)
  go_ret2
  exact ⟨S, E, rfl, hE2.out, hb⟩
theorem put_words_yes (s : ByteArray) (S : ByteArray) (hn : s.size ≤ 9223372036854775807) (w : World) (h : textB s = true) (hS : lgStr s = S) :
    Calls Tryz.prog 78 #[.iface 118 (.string s)] w (fun e w' => e = .returned (.tuple #[.string S, .int .i64 0]) ∧ Below w.heap.size w w') := by
  have HC := Lib.hid (fun (W : World) => (Text_yes s S W hn h hS : Calls Tryz.prog 108 #[.string s] W (fun e w' => e = .returned (.tuple #[.string S, .int .i64 0]) ∧ Below W.heap.size W w')))
  have a0 := as_words_octet
  have a1 := as_words_short
  have a2 := as_words_number
  have b0 := as_words
  clear h hn hS
  go_enter Tryz.func78, Tryz.ntmps78
  go_wp2_with (go_at_call 108; refine (HC.out _).mono ?_; rintro e w1 ⟨rfl, hb⟩)
  go_ret2
  exact ⟨rfl, hb⟩
theorem put_words_no (s : ByteArray) (hn : s.size ≤ 9223372036854775807) (w : World) (h : ¬ (textB s = true)) :
    Calls Tryz.prog 78 #[.iface 118 (.string s)] w (Wrong w) := by
  have HC := Lib.hid (fun (W : World) => ((Text_no s W hn (by simpa using h)).mono fun _ _ ⟨E, h1, h2, h3⟩ => ⟨_, E, h1, h2, h3⟩ : Calls Tryz.prog 108 #[.string s] W (Wrong W)))
  have a0 := as_words_octet
  have a1 := as_words_short
  have a2 := as_words_number
  have b0 := as_words
  clear h hn
  go_enter Tryz.func78, Tryz.ntmps78
  go_wp2_with (go_at_call 108; refine (HC.out _).mono ?_; rintro e w1 ⟨S, E, rfl, hE, hb⟩; have hE2 := Lib.hid hE; clear hE)
  go_ret2
  exact ⟨S, E, rfl, hE2.out, hb⟩
theorem put_sized_yes (s : ByteArray) (S : ByteArray) (w : World) (h : binB s = true) (hS : lgStr s = S) :
    Calls Tryz.prog 78 #[.iface 146 (.string s)] w (fun e w' => e = .returned (.tuple #[.string S, .int .i64 0]) ∧ Below w.heap.size w w') := by
  have HC := Lib.hid (fun (W : World) => (Bin_yes s S W h hS : Calls Tryz.prog 109 #[.string s] W (fun e w' => e = .returned (.tuple #[.string S, .int .i64 0]) ∧ Below W.heap.size W w')))
  have a0 := as_sized_octet
  have a1 := as_sized_short
  have a2 := as_sized_number
  have a3 := as_sized_words
  have b0 := as_sized
  clear h hS
  go_enter Tryz.func78, Tryz.ntmps78
  go_wp2_with (go_at_call 109; refine (HC.out _).mono ?_; rintro e w1 ⟨rfl, hb⟩)
  go_ret2
  exact ⟨rfl, hb⟩
theorem put_sized_no (s : ByteArray) (w : World) (h : ¬ (binB s = true)) :
    Calls Tryz.prog 78 #[.iface 146 (.string s)] w (Wrong w) := by
  have HC := Lib.hid (fun (W : World) => (Bin_no s W (by simpa using h) : Calls Tryz.prog 109 #[.string s] W (Wrong W)))
  have a0 := as_sized_octet
  have a1 := as_sized_short
  have a2 := as_sized_number
  have a3 := as_sized_words
  have b0 := as_sized
  clear h
  go_enter Tryz.func78, Tryz.ntmps78
  go_wp2_with (go_at_call 109; refine (HC.out _).mono ?_; rintro e w1 ⟨S, E, rfl, hE, hb⟩; have hE2 := Lib.hid hE; clear hE)
  go_ret2
  exact ⟨S, E, rfl, hE2.out, hb⟩
theorem put_list (k : Int) (l : List P) (A : Option Addr) (c : Nat) (S : ByteArray) (E : Int) (w : World) (hm : l.length ≤ 9223372036854775807) (hcap : l.length ≤ c) (hfit : ∀ p ∈ l, Fit p) (h : PropsAt w w.heap.size A l)
    (hS : bytesStr k l = S) (hE : bytesErr k l = E) :
    Calls Tryz.prog 78 #[.iface 117 (.agg #[.int .i64 k, .slice A l.length c])] w fun e w' => e = .returned (.tuple #[.string S, .int .i64 E]) ∧ Below w.heap.size w w' := by
  have HC := Lib.hid (fun (W : World) (h : PropsAt W W.heap.size A l) => Bytes_is k l A c S E W hm hcap hfit h hS hE)
  have HP := Lib.hid (h.alloc (Nat.le_refl _) (.cells #[.int .i64 k, .slice A l.length c] 117))
  have a0 := as_list_octet
  have a1 := as_list_short
  have a2 := as_list_number
  have a3 := as_list_words
  have a4 := as_list_sized
  have b0 := as_list
  clear h hS hE hfit hm hcap
  go_enter Tryz.func78, Tryz.ntmps78
  go_wp2_with (go_at_call 110; refine (HC.out _ (HP.out.mono (by simp))).mono ?_; rintro e w1 ⟨rfl, hb⟩)
  go_ret2
  exact ⟨rfl, ((Below.refl _ _).alloc (Nat.le_refl _) _).trans (hb.mono (by simp))⟩
theorem put_raw (s : ByteArray) (w : World) :
    Calls Tryz.prog 78 #[.iface 9 (.string s)] w fun e w' => e = .returned (.tuple #[.string s, .int .i64 0]) ∧ Below w.heap.size w w' := by
  have a0 := as_string_octet
  have a1 := as_string_short
  have a2 := as_string_number
  have a3 := as_string_words
  have a4 := as_string_sized
  have a5 := as_string_list
  have b0 := to_string
  go_enter Tryz.func78, Tryz.ntmps78
  go_wp2_with fail
  go_ret2
  exact ⟨rfl, (Below.refl _ _).alloc (Nat.le_refl _) _⟩
theorem put_part_yes (v : Value) (x : Part) (S : ByteArray) (w : World) (h : PV w w.heap.size v x) (hx : x.okB = true) (hS : x.str = S) :
    Calls Tryz.prog 78 #[v] w fun e w' => e = .returned (.tuple #[.string S, .int .i64 0]) ∧ Below w.heap.size w w' := by
  cases x with
  | octet n => obtain rfl := h; exact put_octet_yes n S w (of_decide_eq_true hx) hS
  | short n => obtain ⟨rfl, hn⟩ := h; exact put_short_yes n S w (of_decide_eq_true hx) hS
  | number n => obtain ⟨rfl, hn⟩ := h; exact put_number_yes n S w (of_decide_eq_true hx) hS
  | words s => obtain ⟨rfl, hn⟩ := h; exact put_words_yes s S (by omega) w hx hS
  | sized s => obtain ⟨rfl, hn⟩ := h; exact put_sized_yes s S w hx hS
  | props k l =>
    obtain ⟨A, c, rfl, h2, h3, h4, h5⟩ := h
    have hp : propsB k l = true := hx
    exact put_list k l A c S 0 w h3 h4 h5 h2 ((bytes_yes hp).1.trans hS) (bytes_yes hp).2
  | raw s => obtain ⟨rfl, hn⟩ := h; obtain rfl : s = S := hS; exact put_raw s w
theorem put_part_no (v : Value) (x : Part) (w : World) (h : PV w w.heap.size v x) (hx : x.okB = false) :
    Calls Tryz.prog 78 #[v] w (Wrong w) := by
  cases x with
  | octet n => obtain rfl := h; exact put_octet_no n w (of_decide_eq_false hx)
  | short n => obtain ⟨rfl, hn⟩ := h; exact put_short_no n hn w (of_decide_eq_false hx)
  | number n => obtain ⟨rfl, hn⟩ := h; exact put_number_no n hn w (of_decide_eq_false hx)
  | words s => obtain ⟨rfl, hn⟩ := h; exact put_words_no s (by omega) w (by rw [show textB s = false from hx]; decide)
  | sized s => obtain ⟨rfl, hn⟩ := h; exact put_sized_no s w (by rw [show binB s = false from hx]; decide)
  | props k l =>
    obtain ⟨A, c, rfl, h2, h3, h4, h5⟩ := h
    have hp : propsB k l = false := hx
    exact (put_list k l A c _ 1 w h3 h4 h5 h2 (bytes_no hp).1 (bytes_no hp).2).mono fun _ _ ⟨h1, h2⟩ => ⟨_, _, h1, by decide, h2⟩
  | raw s => cases hx
end Go.Proofs.YtiancngpknnkaaaGreat
