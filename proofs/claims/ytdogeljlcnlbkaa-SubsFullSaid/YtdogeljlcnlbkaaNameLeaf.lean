/- The small functions of package name and of the document's own answer: signs within a text, what a level asks for. -/
import Derived.Test.YtdogeljlcnlbkaaTextCheck
import Derived.Test.YtdogeljlcnlbkaaTextRText
import Derived.Test.YtdogeljlcnlbkaaNamePlain
import Derived.Test.YtdogeljlcnlbkaaStrMem
namespace Go.Proofs.Ytdogeljlcnlbkaa
open Go.RowKit Go.Lib Txt Nam

set_option maxHeartbeats 1000000 in
theorem Clone_same (s : ByteArray) (w : World) (h : s.size ≤ 281474976710656) :
    Calls Try.prog 27 #[.string s] w fun e w' => e = .returned (.string s) ∧ Below w.heap.size w w' := by
  have HC := Lib.hid (fun W => Try.stringslite_Clone s W h)
  go_enter Try.func27, Try.ntmps27
  go_wp2_with fail
  refine (HC.out _).mono ?_
  rintro e w1 ⟨rfl, hb⟩
  go_wp2_with fail
  go_ret
  exact ⟨rfl, hb⟩

set_option maxHeartbeats 1000000 in
theorem badUnless_is (b : Bool) (w : World) : Calls Try.prog 45 #[.bool b] w fun e w' => e = .returned (.int .i64 (errOf b)) ∧ w' = w := by
  cases b <;>
  · go_enter Try.func45, Try.ntmps45
    go_wp2
    go_ret
    exact ⟨rfl, rfl⟩

theorem drop_ne {s : ByteArray} {pos : Nat} (hp : pos < s.size) : s.data.toList.drop pos ≠ [] := by
  intro e; have := congrArg List.length e; rw [List.length_drop, ← Lib.size_eq] at this; simp at this; omega
theorem decodeL_at (s : ByteArray) (pos : Nat) (hp : pos < s.size) : 1 ≤ (Utf8.decode s pos).2 ∧ pos + (Utf8.decode s pos).2 ≤ s.size := by
  have hle := decodeL_le _ (drop_ne hp)
  rw [decodeL_drop, List.length_drop, ← Lib.size_eq] at hle
  have := Lib.decode_width_pos s pos hp
  omega

set_option maxRecDepth 100000 in
set_option maxHeartbeats 2000000 in
/-- name.isPlain: no sign that stands for any. -/
theorem isPlain_is (s : ByteArray) (b : Bool) (w : World) (hS : plain s.data.toList = b) :
    Calls Try.prog 46 #[.string s] w fun e w' => e = .returned (.bool b) ∧ Below w.heap.size w w' := by
  have HS := Lib.hid hS
  clear hS
  go_enter Try.func46, Try.ntmps46
  go_wp2_with fail
  go_loopw [4] (fun _ wr => ∃ pos : Nat, pos ≤ s.size ∧ wr = w.iter s pos ∧ plain (s.data.toList.drop pos) = plain s.data.toList) (fun _ wr => s.size - wr.iterPos w.heap.size)
  case atStart => exact ⟨0, Nat.zero_le _, rfl, rfl⟩
  case round =>
    obtain ⟨pos, hps, rfl, hc⟩ := hrel
    have HC := Lib.hid (hc.trans HS.out)
    have HC0 := Lib.hid hc
    clear hc HS
    have hb : ∀ p, Below w.heap.size w (w.iter s p) := fun p => (Below.refl _ w).alloc (Nat.le_refl _) _
    by_cases hp : pos < s.size
    · have hnx := fun ty => run_next_any (P := Try.prog) w s pos ty hp
      obtain ⟨hw0, hd1⟩ := decodeL_at s pos hp
      obtain ⟨s1, s2⟩ := plain_step _ (drop_ne hp)
      rw [decodeL_drop] at s1 s2
      generalize Utf8.decode s pos = d at hnx hd1 hw0 s1 s2
      obtain ⟨r, v⟩ := d
      simp only [] at hnx hd1 hw0 s1 s2
      have S1 := Lib.hid s1
      have S2 := Lib.hid s2
      clear s1 s2
      by_cases h1 : r = 43
      · have q1 : ((r : Int) == 43) = true := by simp; omega
        have H1 := Lib.hid h1
        clear h1 S2
        go_wp2
        go_ret
        exact ⟨ret_bool ((S1.out (.inl H1.out)).symm.trans HC.out), hb _⟩
      · have q1 : ((r : Int) == 43) = false := by simp; omega
        by_cases h2 : r = 35
        · have q2 : ((r : Int) == 35) = true := by simp; omega
          have H2 := Lib.hid h2
          clear h2 S2
          go_wp2
          go_ret
          exact ⟨ret_bool ((S1.out (.inr H2.out)).symm.trans HC.out), hb _⟩
        · have q2 : ((r : Int) == 35) = false := by simp; omega
          have H3 := Lib.hid (S2.out h1 h2)
          clear h1 h2 S1 S2
          go_wp2
          go_roundw
          case rel => exact ⟨pos + v, hd1, rfl, by rw [← HC0.out, H3.out, List.drop_drop]⟩
          case measure => simp; omega
    · have hnx := fun ty => run_next_end (P := Try.prog) w s pos ty hp
      go_wp2
      go_ret
      refine ⟨ret_bool ?_, hb _⟩
      rw [← HC.out, List.drop_of_length_le (by rw [← Lib.size_eq]; omega)]; rfl

/-! ### what a level asks for -/
/-- What name.ask tells of a level. -/
def askV (x : List UInt8) : Value :=
  if x = [43] then .iface 93 (.agg #[]) else if x = [35] then .iface 94 (.agg #[]) else if plain x = true then .iface 9 (.string (str x)) else .iface 26 (.int .i64 8)
theorem str_lit_no {x : List UInt8} {c : UInt8} (h : x ≠ [c]) : ((str x).toList == [c]) = false := by
  rw [str_toList, beq_eq_false_iff_ne]
  exact h

set_option maxHeartbeats 1000000 in
theorem ask_is (x : List UInt8) (V : Value) (w : World) (hV : askV x = V) :
    Calls Try.prog 54 #[.string (str x)] w fun e w' => e = .returned V ∧ Below w.heap.size w w' := by
  subst hV
  by_cases h1 : x = [43]
  · have HV := Lib.hid (show askV x = .iface 93 (.agg #[]) by unfold askV; rw [if_pos h1])
    have q1 : ((str x).toList == [43]) = true := by rw [str_toList, h1]; rfl
    clear h1
    generalize str x = s at q1
    go_enter Try.func54, Try.ntmps54
    go_wp2
    go_ret
    exact ⟨by rw [HV.out]; rfl, Below.refl _ _⟩
  · have q1 := str_lit_no h1
    by_cases h2 : x = [35]
    · have HV := Lib.hid (show askV x = .iface 94 (.agg #[]) by unfold askV; rw [if_neg h1, if_pos h2])
      have q2 : ((str x).toList == [35]) = true := by rw [str_toList, h2]; rfl
      clear h1 h2
      generalize str x = s at q1 q2
      go_enter Try.func54, Try.ntmps54
      go_wp2
      go_ret
      exact ⟨by rw [HV.out]; rfl, Below.refl _ _⟩
    · have q2 := str_lit_no h2
      cases hp : plain x with
      | true =>
        have HV := Lib.hid (show askV x = .iface 9 (.string (str x)) by unfold askV; rw [if_neg h1, if_neg h2, if_pos hp])
        have HP := Lib.hid (fun W => isPlain_is (str x) true W (by rw [str_data]; exact hp))
        clear h1 h2 hp
        generalize str x = s at HP HV q1 q2
        go_enter Try.func54, Try.ntmps54
        go_wp2_with (go_at_call 46; refine (HP.out _).mono ?_; rintro e w1 ⟨rfl, hb⟩)
        go_ret
        exact ⟨by rw [HV.out]; rfl, hb⟩
      | false =>
        have HV := Lib.hid (show askV x = .iface 26 (.int .i64 8) by unfold askV; rw [if_neg h1, if_neg h2, if_neg (by rw [hp]; decide)])
        have HP := Lib.hid (fun W => isPlain_is (str x) false W (by rw [str_data]; exact hp))
        clear h1 h2 hp
        generalize str x = s at HP HV q1 q2
        go_enter Try.func54, Try.ntmps54
        go_wp2_with (go_at_call 46; refine (HP.out _).mono ?_; rintro e w1 ⟨rfl, hb⟩)
        go_ret
        exact ⟨by rw [HV.out]; rfl, hb⟩

theorem as_plain_errno (v : Value) (w : World) : (Instr.typeAssert (.iface 9 v) 20 26 true).run Try.prog w = .ok (.tuple #[.int .i64 0, .bool false]) w := by kernel_rfl
theorem as_one_errno (v : Value) (w : World) : (Instr.typeAssert (.iface 93 v) 20 26 true).run Try.prog w = .ok (.tuple #[.int .i64 0, .bool false]) w := by kernel_rfl
theorem as_rest_errno (v : Value) (w : World) : (Instr.typeAssert (.iface 94 v) 20 26 true).run Try.prog w = .ok (.tuple #[.int .i64 0, .bool false]) w := by kernel_rfl
theorem as_errno (v : Value) (w : World) : (Instr.typeAssert (.iface 26 v) 20 26 true).run Try.prog w = .ok (.tuple #[v, .bool true]) w := by kernel_rfl
theorem as_plain_rest (v : Value) (w : World) : (Instr.typeAssert (.iface 9 v) 20 94 true).run Try.prog w = .ok (.tuple #[.agg #[], .bool false]) w := by kernel_rfl
theorem as_one_rest (v : Value) (w : World) : (Instr.typeAssert (.iface 93 v) 20 94 true).run Try.prog w = .ok (.tuple #[.agg #[], .bool false]) w := by kernel_rfl
theorem as_rest (v : Value) (w : World) : (Instr.typeAssert (.iface 94 v) 20 94 true).run Try.prog w = .ok (.tuple #[v, .bool true]) w := by kernel_rfl
theorem as_plain_one (v : Value) (w : World) : (Instr.typeAssert (.iface 9 v) 20 93 true).run Try.prog w = .ok (.tuple #[.agg #[], .bool false]) w := by kernel_rfl
theorem as_one (v : Value) (w : World) : (Instr.typeAssert (.iface 93 v) 20 93 true).run Try.prog w = .ok (.tuple #[v, .bool true]) w := by kernel_rfl
theorem as_plain (v : Value) (w : World) : (Instr.typeAssert (.iface 9 v) 20 9 true).run Try.prog w = .ok (.tuple #[v, .bool true]) w := by kernel_rfl
theorem as_one_plain (v : Value) (w : World) : (Instr.typeAssert (.iface 93 v) 20 9 true).run Try.prog w = .ok (.tuple #[.string ByteArray.empty, .bool false]) w := by kernel_rfl
theorem as_rest_plain (v : Value) (w : World) : (Instr.typeAssert (.iface 94 v) 20 9 true).run Try.prog w = .ok (.tuple #[.string ByteArray.empty, .bool false]) w := by kernel_rfl
theorem to_plain (v : Value) (w : World) : (Instr.typeAssert (.iface 9 v) 20 9 false).run Try.prog w = .ok v w := by kernel_rfl

/-- What a level of a filter that may be asks for. -/
theorem askV_cases (x : List UInt8) : (x = [43] ∧ askV x = .iface 93 (.agg #[])) ∨ (x = [35] ∧ askV x = .iface 94 (.agg #[])) ∨ (plain x = true ∧ x ≠ [43] ∧ x ≠ [35] ∧ askV x = .iface 9 (.string (str x))) ∨
    (plain x = false ∧ x ≠ [43] ∧ x ≠ [35] ∧ askV x = .iface 26 (.int .i64 8)) := by
  unfold askV
  by_cases h1 : x = [43]
  · exact .inl ⟨h1, by rw [if_pos h1]⟩
  · by_cases h2 : x = [35]
    · exact .inr (.inl ⟨h2, by rw [if_neg h1, if_pos h2]⟩)
    · cases hp : plain x with
      | true => exact .inr (.inr (.inl ⟨rfl, h1, h2, by rw [if_neg h1, if_neg h2, if_pos rfl]⟩))
      | false => exact .inr (.inr (.inr ⟨rfl, h1, h2, by rw [if_neg h1, if_neg h2, if_neg (by decide)]⟩))

set_option maxHeartbeats 1000000 in
/-- name.isWild of what a level of a filter that may be asks for. -/
theorem isWild_is (x : List UInt8) (b : Bool) (w : World) (hx : wild x = b) (hp : b = true ∨ plain x = true) :
    Calls Try.prog 53 #[askV x] w fun e w' => e = .returned (.bool b) ∧ Below w.heap.size w w' := by
  rcases askV_cases x with ⟨h1, h2⟩ | ⟨h1, h2⟩ | ⟨h0, h1, h1', h2⟩ | ⟨h0, h1, h1', h2⟩
  · obtain rfl : b = true := by rw [← hx, h1]; rfl
    rw [h2]
    have as0 := as_one_plain
    clear h1 h2 hx hp
    go_enter Try.func53, Try.ntmps53
    go_wp2
    go_ret
    exact ⟨rfl, Below.refl _ _⟩
  · obtain rfl : b = true := by rw [← hx, h1]; rfl
    rw [h2]
    have as0 := as_rest_plain
    clear h1 h2 hx hp
    go_enter Try.func53, Try.ntmps53
    go_wp2
    go_ret
    exact ⟨rfl, Below.refl _ _⟩
  · obtain rfl : b = false := by rw [← hx]; unfold wild; simp [h1, h1']
    rw [h2]
    have as0 := as_plain
    clear h0 h1 h2 h1' hx hp
    go_enter Try.func53, Try.ntmps53
    go_wp2
    go_ret
    exact ⟨rfl, Below.refl _ _⟩
  · exfalso
    have : wild x = false := by unfold wild; simp [h1, h1']
    rw [this] at hx
    subst hx
    rw [h0] at hp
    rcases hp with h | h <;> cases h

set_option maxHeartbeats 1000000 in
/-- name.isMet: a level that asks for one, or for itself. -/
theorem isMet_is (x y : List UInt8) (b : Bool) (w : World) (hb : (x == [43] || x == y) = b) (h35 : x ≠ [35]) (hp : x = [43] ∨ plain x = true) :
    Calls Try.prog 65 #[askV x, .string (str y)] w fun e w' => e = .returned (.bool b) ∧ Below w.heap.size w w' := by
  rcases askV_cases x with ⟨h1, h2⟩ | ⟨h1, h2⟩ | ⟨h0, h1, h1', h2⟩ | ⟨h0, h1, h1', h2⟩
  · obtain rfl : b = true := by rw [← hb, h1]; rfl
    rw [h2]
    have as0 := as_one
    clear h1 h2 hb hp h35
    go_enter Try.func65, Try.ntmps65
    go_wp2
    go_ret
    exact ⟨rfl, (Below.refl _ _).alloc (Nat.le_refl _) _⟩
  · exact absurd h1 h35
  · have e : ((str x).toList == (str y).toList) = b := by rw [str_toList, str_toList, ← hb, beq_eq_false_iff_ne.2 h1, Bool.false_or]
    rw [h2]
    have as0 := as_plain_one
    have as1 := to_plain
    clear h0 h1 h2 h1' hb hp h35
    generalize str x = s at e
    generalize str y = t at e
    go_enter Try.func65, Try.ntmps65
    go_wp2
    go_ret
    exact ⟨rfl, (Below.refl _ _).alloc (Nat.le_refl _) _⟩
  · rw [h0] at hp
    rcases hp with h | h
    · exact absurd h h1
    · cases h
end Go.Proofs.Ytdogeljlcnlbkaa
