/- Package subs: what a subscription asks for, and whether one may be. -/
import Derived.Test.YtdogeljlcnlbkaaNameMatch
import Derived.Test.YtdogeljlcnlbkaaNameShare
import Derived.Test.YtdogeljlcnlbkaaSubCmp
import Derived.Deep.Cut
namespace Go.Proofs.Ytdogeljlcnlbkaa.Sbs
open Go.RowKit Go.Lib Txt Nam

/-- A subscription's topic is a filter by itself, and no shared one. -/
structure Fine (s : Sb) : Prop where
  sh : shareOf s.t = ⟨false, [], s.t, 0⟩
  len : s.t.length ≤ 1000000
  q0 : 0 ≤ s.q
  q2 : s.q ≤ 2

set_option maxRecDepth 100000 in
set_option maxHeartbeats 2000000 in
/-- subs.ask, of a filter. -/
theorem sask_is (t : List UInt8) (w : World) (hl : t.length ≤ 1000000) (h : shareOf t = ⟨false, [], t, 0⟩) :
    Calls Try.prog 21 #[.string (str t)] w fun e w' => e = .returned (.iface 56 (.agg #[.string ⟨#[]⟩, .string (str t)])) ∧ Below w.heap.size w w' := by
  have HS := Lib.hid (fun W => show Calls Try.prog 36 #[.string (str t)] W fun e w' => e = .returned (.tuple #[.bool false, .string ⟨#[]⟩, .string (str t), .int .i64 0]) ∧ Below W.heap.size W w' from Share_is (str t) ⟨false, [], t, 0⟩ W (by rw [str_size]; exact hl) (by rw [str_data]; exact h))
  clear h hl
  generalize str t = s at HS ⊢
  go_enter Try.func21, Try.ntmps21
  go_wp2_with (go_at_call 36; refine (HS.out _).mono ?_; rintro e w1 ⟨rfl, hb1⟩)
  go_ret
  exact ⟨rfl, hb1⟩

theorem as_asked (v : Value) (w : World) : (Instr.typeAssert (.iface 56 v) 20 56 true).run Try.prog w = .ok (.tuple #[v, .bool true]) w := by kernel_rfl
theorem to_asked (v : Value) (w : World) : (Instr.typeAssert (.iface 56 v) 20 56 false).run Try.prog w = .ok v w := by kernel_rfl

set_option maxRecDepth 100000 in
set_option maxHeartbeats 1000000 in
/-- subs.isWithin, of a number that is. -/
theorem isWithin_yes (n a b : Int) (w : World) (h1 : a ≤ n) (h2 : n ≤ b) :
    Calls Try.prog 22 #[.int .i64 n, .int .i64 a, .int .i64 b] w fun e w' => e = .returned (.bool true) ∧ w = w' := by
  go_enter Try.func22, Try.ntmps22
  go_wp2
  go_ret
  exact ⟨rfl, rfl⟩

set_option maxRecDepth 100000 in
set_option maxHeartbeats 1000000 in
/-- subs.mayStand, of no cursors. -/
theorem mayStand_none (s : ByteArray) (w : World) :
    Calls Try.prog 23 #[.slice none 0 0, .string s] w fun e w' => e = .returned (.bool true) ∧ w = w' := by
  go_enter Try.func23, Try.ntmps23
  go_wp2_with fail
  go_loopw [9] (fun i wr => i = .int .i64 0 ∧ wr = w) (fun _ _ => 0)
  case atStart => exact ⟨rfl, rfl⟩
  case round =>
    obtain ⟨rfl, rfl⟩ := hrel
    go_wp2
    go_ret
    exact ⟨rfl, rfl⟩

set_option maxRecDepth 100000 in
set_option maxHeartbeats 4000000 in
/-- subs.mayBe, of a subscription that may be. -/
theorem mayBe_is (s : Sb) (w : World) (h : Fine s) :
    Calls Try.prog 12 #[sagg s] w fun e w' => e = .returned (.bool true) ∧ Below w.heap.size w w' := by
  obtain ⟨t, q⟩ := s
  obtain ⟨h1, h2, h3, h4⟩ := h
  have h3 : (0 : Int) ≤ q := h3
  have h4 : q ≤ 2 := h4
  have HA := Lib.hid (fun W => sask_is t W h2 h1)
  have as0 := as_asked (.agg #[.string ⟨#[]⟩, .string (str t)])
  have hb0 := Lib.hid (Blk.new w 33 (scells ⟨t, q⟩).toArray)
  have HX0 := Lib.hid ((Below.refl w.heap.size w).alloc (Nat.le_refl _) (.cells (scells ⟨t, q⟩).toArray 33))
  unfold scells at hb0 HX0
  unfold sagg
  dsimp only at hb0 HX0 HA as0 ⊢
  clear h1 h2
  generalize str t = s at HA as0 hb0 HX0 ⊢
  go_enter Try.func12, Try.ntmps12
  go_upto_region 2 with (go_at_call 21; refine (HA.out _).mono ?_; rintro e w1 ⟨rfl, hb1⟩)
  have HB1 := Lib.hid (hb0.out.below hb1)
  have HX1 := Lib.hid (HX0.out.trans (hb1.mono HX0.out.size))
  clear hb0 HX0 hb1 HA as0
  obtain ⟨g, hg⟩ : ∃ g, w.heap.size = g := ⟨_, rfl⟩
  rw [hg] at HB1 ⊢
  obtain ⟨W, hW⟩ : ∃ W, w1.alloc (.cells #[.string ⟨#[]⟩, .string s] 56) = W := ⟨_, rfl⟩
  have hbx : Blk W g #[.string s, .int .i64 q, .bool false, .bool false, .int .i64 0, .string ⟨#[]⟩, .int .i64 (-1), .int .i64 0, .slice none 0 0] := by rw [← hW]; exact HB1.out.alloc _
  have hby : Blk W w1.heap.size #[.string ⟨#[]⟩, .string s] := by rw [← hW]; exact Blk.new _ _ _
  have HXW := Lib.hid (show Below w.heap.size w W by rw [← hW]; exact HX1.out.alloc HX1.out.size _)
  have d1 := hbx.cell 1
  have d4 := hbx.cell 4
  have d5 := hbx.cell 5
  have d6 := hbx.cell 6
  have d7 := hbx.cell 7
  have d8 := hbx.cell 8
  have e0 := hby.cell 0
  have e1 := hby.cell 1
  have HM := Lib.hid (fun W => mayStand_none s W)
  rw [hW]
  clear hbx hby hW hg HB1 HX1
  generalize w1.heap.size = g1 at e0 e1 ⊢
  go_wp2_with (first | (go_at_call 22; refine (isWithin_yes _ _ _ _ (by omega) (by omega)).mono ?_; rintro e w' ⟨rfl, rfl⟩) | (go_at_call 23; refine (HM.out _).mono ?_; rintro e w' ⟨rfl, rfl⟩))
  go_ret
  exact ⟨rfl, HXW.out⟩
end Go.Proofs.Ytdogeljlcnlbkaa.Sbs
