/- Two properties held against each other; two lists of them. -/
import Derived.Test.YthjlbdplhhgcpaaPropMem
import Derived.Test.YthjlbdplhhgcpaaTextLeaf
namespace Go.Proofs.Ythjlbdplhhgcpaa
open Go.RowKit Go.Lib Prp

theorem toList_eq_iff (a b : ByteArray) : a.toList = b.toList ↔ a = b := by
  constructor
  · intro h
    rw [ByteArray.toList_eq, ByteArray.toList_eq] at h
    exact ByteArray.ext (Array.toList_inj.1 (by simpa using h))
  · rintro rfl; rfl
/-- Do they differ? -/
def diffB (a b : P) : Bool := decide (¬ (a.id = b.id ∧ a.n = b.n ∧ a.s = b.s ∧ a.v = b.v))
theorem diff_self (a : P) : diffB a a = false := by unfold diffB; simp
theorem neq_props (i n i' n' : Int) (s v s' v' : ByteArray) (w : World) :
    (binOp .neq 48 (.agg #[.int .i64 i, .int .i64 n, .string s, .string v]) (.agg #[.int .i64 i', .int .i64 n', .string s', .string v'])).run Try.prog w = .ok (.bool (diffB ⟨i, n, s, v⟩ ⟨i', n', s', v'⟩)) w := by
  rw [run_neq_struct]
  unfold diffB
  by_cases h1 : i = i' <;> by_cases h2 : n = n' <;> by_cases h3 : s = s' <;> by_cases h4 : v = v' <;> (try go_simp)
  all_goals simp [h3, h4, toList_eq_iff]

set_option maxRecDepth 100000 in
set_option maxHeartbeats 1000000 in
/-- EqProps of the same properties: yes. -/
theorem EqProps_same (l : List P) (A A' : Option Addr) (c c' B B' : Nat) (w : World) (hm : l.length ≤ 9223372036854775807) (h : PropsAt w B A l) (h' : PropsAt w B' A' l) :
    Calls Try.prog 21 #[.slice A l.length c, .slice A' l.length c'] w fun e w' => e = .returned (.bool true) ∧ ∃ n, w' = w.drewN n := by
  have H := Lib.hid h
  have H' := Lib.hid h'
  clear h h'
  go_enter Try.func21, Try.ntmps21
  go_wp2_with fail
  go_loopw [5] (fun i wr => ∃ k n : Nat, k ≤ l.length ∧ i = .int .i64 (k : Int) ∧ wr = w.drewN n) (fun i _ => l.length - (RowKit.intOf i).toNat)
  case atStart => exact ⟨0, 0, Nat.zero_le _, rfl, rfl⟩
  case round =>
    obtain ⟨k, n, hk, rfl, rfl⟩ := hrel
    by_cases hlt : k < l.length
    · obtain ⟨b, o, rfl, _, hc⟩ := H.out.some_ (by omega)
      obtain ⟨b', o', rfl, _, hc'⟩ := H'.out.some_ (by omega)
      have h1 := hc k hlt
      have h2 := hc' k hlt
      clear hc hc' H H'
      obtain ⟨i, x, s, v⟩ := l[k]
      obtain ⟨c0, c1, c2, c3⟩ := h1
      obtain ⟨d0, d1, d2, d3⟩ := h2
      have hkI : (k : Int) < (l.length : Int) := by omega
      have hne := neq_props i x i x s v s v
      rw [diff_self] at hne
      go_wp2
      go_quiet (fail)
      go_wp2
      go_roundw
      case rel => exact ⟨k + 1, _, hlt, by go_num, rfl⟩
      case measure => simp [RowKit.intOf]; omega
    · go_wp2
      go_ret
      exact ⟨rfl, n, rfl⟩
end Go.Proofs.Ythjlbdplhhgcpaa
