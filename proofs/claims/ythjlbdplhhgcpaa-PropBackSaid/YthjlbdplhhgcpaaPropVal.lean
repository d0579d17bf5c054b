/- Package prop: the value of a property, as any, and back. -/
import Derived.Test.YthjlbdplhhgcpaaPropLeaf
namespace Go.Proofs.Ythjlbdplhhgcpaa
open Go.RowKit Go.Lib Prp

/-! ### assertions, as closed facts -/
theorem as_ii (v : Value) (w : World) : (Instr.typeAssert (.iface 3 v) 20 3 true).run Try.prog w = .ok (.tuple #[v, .bool true]) w := by kernel_rfl
theorem as_si (v : Value) (w : World) : (Instr.typeAssert (.iface 9 v) 20 3 true).run Try.prog w = .ok (.tuple #[.int .i64 0, .bool false]) w := by kernel_rfl
theorem as_ss (v : Value) (w : World) : (Instr.typeAssert (.iface 9 v) 20 9 true).run Try.prog w = .ok (.tuple #[v, .bool true]) w := by kernel_rfl
theorem as_pi (v : Value) (w : World) : (Instr.typeAssert (.iface 93 v) 20 3 true).run Try.prog w = .ok (.tuple #[.int .i64 0, .bool false]) w := by kernel_rfl
theorem as_ps (v : Value) (w : World) : (Instr.typeAssert (.iface 93 v) 20 9 true).run Try.prog w = .ok (.tuple #[.string ByteArray.empty, .bool false]) w := by kernel_rfl
theorem to_i (v : Value) (w : World) : (Instr.typeAssert (.iface 3 v) 20 3 false).run Try.prog w = .ok v w := by kernel_rfl
theorem to_s (v : Value) (w : World) : (Instr.typeAssert (.iface 9 v) 20 9 false).run Try.prog w = .ok v w := by kernel_rfl
theorem to_p (v : Value) (w : World) : (Instr.typeAssert (.iface 93 v) 20 93 false).run Try.prog w = .ok v w := by kernel_rfl

set_option maxHeartbeats 1000000 in
theorem valueOf_num (k id n : Int) (s v : ByteArray) (w : World) (h : k ≠ 5 ∧ k ≠ 6 ∧ k ≠ 7) :
    Calls Try.prog 47 #[.int .i64 k, .agg #[.int .i64 id, .int .i64 n, .string s, .string v]] w fun e w' => e = .returned (.iface 3 (.int .i64 n)) ∧ Below w.heap.size w w' := by
  obtain ⟨h5, h6, h7⟩ := h
  replace h5 := ne_false h5
  replace h6 := ne_false h6
  replace h7 := ne_false h7
  go_enter Try.func47, Try.ntmps47
  go_wp2
  go_ret
  exact ⟨rfl, (Below.refl _ _).alloc (Nat.le_refl _) _⟩
set_option maxHeartbeats 1000000 in
theorem valueOf_str (k id n : Int) (s v : ByteArray) (w : World) (h : k = 5 ∨ k = 6) :
    Calls Try.prog 47 #[.int .i64 k, .agg #[.int .i64 id, .int .i64 n, .string s, .string v]] w fun e w' => e = .returned (.iface 9 (.string s)) ∧ Below w.heap.size w w' := by
  rcases h with rfl | rfl <;>
  · go_enter Try.func47, Try.ntmps47
    go_wp2
    go_ret
    exact ⟨rfl, (Below.refl _ _).alloc (Nat.le_refl _) _⟩
set_option maxHeartbeats 1000000 in
theorem valueOf_two (id n : Int) (s v : ByteArray) (w : World) :
    Calls Try.prog 47 #[.int .i64 7, .agg #[.int .i64 id, .int .i64 n, .string s, .string v]] w fun e w' => e = .returned (.iface 93 (.agg #[.string s, .string v])) ∧ Below w.heap.size w w' := by
  go_enter Try.func47, Try.ntmps47
  go_wp2
  go_ret
  exact ⟨rfl, (Below.refl _ _).alloc (Nat.le_refl _) _⟩

set_option maxRecDepth 100000 in
set_option maxHeartbeats 1000000 in
theorem propOf_num (id n : Int) (w : World) :
    Calls Try.prog 49 #[.int .i64 id, .iface 3 (.int .i64 n)] w fun e w' => e = .returned (.agg #[.int .i64 id, .int .i64 n, .string ⟨#[]⟩, .string ⟨#[]⟩]) ∧ Below w.heap.size w w' := by
  have as_ii0 := as_ii
  go_enter Try.func49, Try.ntmps49
  go_wp2
  refine bodyPost_ret (v := .agg #[.int .i64 id, .int .i64 n, .string ⟨#[]⟩, .string ⟨#[]⟩]) (by simp [results, Try.results49, go_sem]) rfl ⟨rfl, ?_⟩
  exact (Below.refl _ _).alloc (Nat.le_refl _) _
set_option maxRecDepth 100000 in
set_option maxHeartbeats 1000000 in
theorem propOf_str (id : Int) (s : ByteArray) (w : World) :
    Calls Try.prog 49 #[.int .i64 id, .iface 9 (.string s)] w fun e w' => e = .returned (.agg #[.int .i64 id, .int .i64 0, .string s, .string ⟨#[]⟩]) ∧ Below w.heap.size w w' := by
  have as_si0 := as_si
  have as_ss0 := as_ss
  go_enter Try.func49, Try.ntmps49
  go_wp2
  refine bodyPost_ret (v := .agg #[.int .i64 id, .int .i64 0, .string s, .string ⟨#[]⟩]) (by simp [results, Try.results49, go_sem]) rfl ⟨rfl, ?_⟩
  exact (Below.refl _ _).alloc (Nat.le_refl _) _
set_option maxRecDepth 100000 in
set_option maxHeartbeats 1000000 in
theorem propOf_two (id : Int) (s v : ByteArray) (w : World) :
    Calls Try.prog 49 #[.int .i64 id, .iface 93 (.agg #[.string s, .string v])] w fun e w' => e = .returned (.agg #[.int .i64 id, .int .i64 0, .string s, .string v]) ∧ Below w.heap.size w w' := by
  have as_pi0 := as_pi
  have as_ps0 := as_ps
  have to_p0 := to_p
  go_enter Try.func49, Try.ntmps49
  go_wp2
  refine bodyPost_ret (v := .agg #[.int .i64 id, .int .i64 0, .string s, .string v]) (by simp [results, Try.results49, go_sem]) rfl ⟨rfl, ?_⟩
  exact ((Below.refl _ _).alloc (Nat.le_refl _) _).alloc (by simp) _
end Go.Proofs.Ythjlbdplhhgcpaa
