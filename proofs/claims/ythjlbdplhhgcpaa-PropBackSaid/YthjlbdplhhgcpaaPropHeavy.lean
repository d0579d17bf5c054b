/- The fourth layer's statements: what is too much; where a round over an ask stands. -/
import Derived.Test.YthjlbdplhhgcpaaPropCopy
import Derived.Test.YthjlbdplhhgcpaaPropWakes
namespace Go.Proofs.Ythjlbdplhhgcpaa
open Go.RowKit Go.Lib Prp

/-- Is it too much? If not, all is small. -/
def Heavy (l : List P) (s : ByteArray) (w : World) (e : Ending) (w' : World) : Prop :=
  ∃ b : Bool, e = .returned (.bool b) ∧ (b = false → l.length ≤ 10000 ∧ (∀ p ∈ l, p.s.size ≤ 10000 ∧ p.v.size ≤ 10000) ∧ s.size ≤ 9000) ∧ Below w.heap.size w w'
set_option maxRecDepth 100000 in
set_option maxHeartbeats 4000000 in
theorem heavy_is (x : Int) (l : List P) (A : Option Addr) (c : Nat) (s : ByteArray) (w : World) (hm : l.length ≤ 9223372036854775807) (hfit : ∀ p ∈ l, Fit p) (h : PropsAt w w.heap.size A l) :
    Calls Try.prog 15 #[.agg #[.int .i64 x, .slice A l.length c, .string s]] w (Heavy l s w) := by
  have HW := Lib.hid (fun (W : World) (h : PropsAt W w.heap.size A l) => PropsWeight_is l A c w.heap.size W hm hfit h)
  have H := Lib.hid h
  clear h hfit
  go_enter Try.func15, Try.ntmps15
  go_wp2_with fail
  refine (HW.out _ (H.out.alloc (Nat.le_refl _) _)).mono ?_
  rintro e w1 ⟨m, rfl, hw, hb, n, rfl⟩
  have HU := Lib.hid hw
  clear hw HW H
  have HX := Lib.hid (below_drewN ((Below.refl w.heap.size w).alloc (Nat.le_refl _) (.cells #[.int .i64 x, .slice A l.length c, .string s] 25)) n)
  by_cases hbig : 10000 < m
  · have hd : decide ((10000 : Int) < (m : Int)) = true := by simp; omega
    go_wp2_with fail
    go_ret
    exact ⟨true, rfl, (fun e => by cases e), HX.out⟩
  · have hd : decide ((10000 : Int) < (m : Int)) = false := by simp; omega
    go_wp2_with fail
    go_ret
    refine ⟨_, rfl, fun e => ?_, HX.out⟩
    have hs := of_decide_eq_false e
    have := HU.out (by omega)
    have h2 := upTo_light (l := l) (by omega)
    exact ⟨h2.1, h2.2, by omega⟩
/-- Where a round stands: the ask's box, its properties, what was there ahead of the call. -/
@[irreducible] def Stand (w : World) (g : Nat) (x : Int) (A : Option Addr) (l : List P) (c : Nat) (s : ByteArray) (W : World) : Prop :=
  Box W g #[.int .i64 x, .slice A l.length c, .string s] ∧ PropsAt W w.heap.size A l ∧ Below w.heap.size w W
section
variable {w W W' : World} {g c : Nat} {x : Int} {A : Option Addr} {l : List P} {s : ByteArray}
theorem Stand.mk (h1 : Box W g #[.int .i64 x, .slice A l.length c, .string s]) (h2 : PropsAt W w.heap.size A l) (h3 : Below w.heap.size w W) : Stand w g x A l c s W := by unfold Stand; exact ⟨h1, h2, h3⟩
theorem Stand.out (h : Stand w g x A l c s W) : Box W g #[.int .i64 x, .slice A l.length c, .string s] ∧ PropsAt W w.heap.size A l ∧ Below w.heap.size w W := by unfold Stand at h; exact h
theorem Stand.below (h : Stand w g x A l c s W) (hb : Below W.heap.size W W') : Stand w g x A l c s W' :=
  .mk (h.out.1.below hb) (h.out.2.1.below (hb.mono h.out.2.2.size)) (h.out.2.2.trans (hb.mono h.out.2.2.size))
theorem Stand.drewN (h : Stand w g x A l c s W) (n : Nat) : Stand w g x A l c s (W.drewN n) := h.below (below_drewN (Below.refl _ _) n)
theorem Stand.cells (h : Stand w g x A l c s W) : W.cell? ⟨g, 0, none⟩ = some (.int .i64 x) ∧ W.cell? ⟨g, 1, none⟩ = some (.slice A l.length c) ∧ W.cell? ⟨g, 2, none⟩ = some (.string s) :=
  ⟨h.out.1.cell 0, h.out.1.cell 1, h.out.1.cell 2⟩
theorem Stand.props (h : Stand w g x A l c s W) : PropsAt W W.heap.size A l := h.out.2.1.mono h.out.2.2.size
end
/-- Other properties, below what there is. -/
@[irreducible] def Lies (A : Option Addr) (l : List P) (W : World) : Prop := PropsAt W W.heap.size A l
section
variable {W W' : World} {A : Option Addr} {l : List P}
theorem Lies.mk (h : PropsAt W W.heap.size A l) : Lies A l W := by unfold Lies; exact h
theorem Lies.out (h : Lies A l W) : PropsAt W W.heap.size A l := by unfold Lies at h; exact h
theorem Lies.below (h : Lies A l W) (hb : Below W.heap.size W W') : Lies A l W' := .mk ((h.out.below hb).mono hb.size)
end
theorem EqProps_lies (l : List P) (A A' : Option Addr) (c c' : Nat) (w : World) (hm : l.length ≤ 9223372036854775807) (h : Lies A l w) (h' : Lies A' l w) :
    Calls Try.prog 21 #[.slice A l.length c, .slice A' l.length c'] w fun e w' => e = .returned (.bool true) ∧ Below w.heap.size w w' :=
  (EqProps_same l A A' c c' _ _ w hm h.out h'.out).mono fun _ _ ⟨h1, n, h2⟩ => ⟨h1, by rw [h2]; exact below_drewN (Below.refl _ _) n⟩
end Go.Proofs.Ythjlbdplhhgcpaa
