/- Package prop, and the document's own answer: where a property may stand. -/
import Derived.Test.YthjlbdplhhgcpaaPropLeaf
import Derived.Test.YthjlbdplhhgcpaaMem
namespace Go.Proofs.Ythjlbdplhhgcpaa
open Go.RowKit Go.Lib Prp

/-- The answer of a search: a number that is none below 0 just where it is there. -/
def Found (b : Bool) (w : World) (e : Ending) (w' : World) : Prop := ∃ j : Int, e = .returned (.int .i64 j) ∧ decide (0 ≤ j) = b ∧ w = w'
theorem contains_at {xs : List Int} {k : Nat} {x : Int} (hk : k < xs.length) (h : xs.getD k 0 = x) : xs.contains x = true := by
  rw [List.contains_iff_mem]
  rw [← h, List.getD_eq_getElem?_getD, List.getElem?_eq_getElem hk]
  exact List.getElem_mem hk
theorem contains_not {xs : List Int} {x : Int} (h : ∀ j, j < xs.length → xs.getD j 0 ≠ x) : xs.contains x = false := by
  rw [Bool.eq_false_iff]
  intro hc
  rw [List.contains_iff_mem] at hc
  obtain ⟨j, hj, he⟩ := List.getElem_of_mem hc
  exact h j hj (by rw [List.getD_eq_getElem?_getD, List.getElem?_eq_getElem hj]; exact he)

set_option maxRecDepth 100000 in
set_option maxHeartbeats 1000000 in
theorem In_is (xs : List Int) (A : Option Addr) (c B : Nat) (x : Int) (b : Bool) (w : World) (hm : xs.length ≤ 9223372036854775807) (h : Nums w B .i64 A xs) (hb : xs.contains x = b) :
    Calls Try.prog 53 #[.slice A xs.length c, .int .i64 x] w (Found b w) := by
  have H := Lib.hid h
  have HB := Lib.hid hb
  clear h hb
  go_enter Try.func53, Try.ntmps53
  go_wp2_with fail
  go_loop [5] (fun i => ∃ k : Nat, k ≤ xs.length ∧ i = .int .i64 (k : Int) ∧ ∀ j, j < k → xs.getD j 0 ≠ x) (fun i => xs.length - (RowKit.intOf i).toNat)
  case atStart => exact ⟨0, Nat.zero_le _, rfl, fun j hj => by omega⟩
  case round =>
    obtain ⟨k, hk, rfl, hne⟩ := hrel
    have HN := Lib.hid hne
    clear hne
    by_cases hlt : k < xs.length
    · obtain ⟨a, rfl, _, hc⟩ := H.out.some_ (by omega)
      have h1 := hc k hlt
      clear hc H
      have hkI : (k : Int) < (xs.length : Int) := by omega
      obtain ⟨y, hy⟩ : ∃ y, xs.getD k 0 = y := ⟨_, rfl⟩
      rw [hy] at h1
      by_cases hyx : y = x
      · subst hyx
        have HT := Lib.hid (HB.out.symm.trans (contains_at hlt hy))
        clear hy HN HB
        go_wp2
        go_ret
        exact ⟨_, rfl, by rw [HT.out]; exact decide_eq_true (by omega), rfl⟩
      · have bb := ne_false hyx
        have HY := Lib.hid hy
        clear hy
        go_wp2
        go_round
        case rel => exact ⟨k + 1, hlt, by go_num, fun j hj => by
          by_cases e : j = k
          · subst e; rw [HY.out]; exact hyx
          · exact HN.out j (by omega)⟩
        case measure => simp [RowKit.intOf]; omega
    · obtain rfl : k = xs.length := by omega
      have HT := Lib.hid (HB.out.symm.trans (contains_not HN.out))
      clear HN HB H
      go_wp2
      go_ret
      exact ⟨_, rfl, by rw [HT.out]; rfl, rfl⟩
end Go.Proofs.Ythjlbdplhhgcpaa
