/- Properties copied into new memory; how much they are; what is too much. -/
import Derived.Test.YthjlbdplhhgcpaaPropEq
import Derived.Test.YthjlbdplhhgcpaaPropAsks
import Derived.Lib.Hide
namespace Go.Proofs.Ythjlbdplhhgcpaa
open Go.RowKit Go.Lib Prp

theorem info_prop : (Try.prog.info? 48).map (fun i => (i.zero, i.size, i.bytes)) = some (some (.agg #[.int .i64 0, .int .i64 0, .string ⟨#[]⟩, .string ⟨#[]⟩]), 4, 48) := by kernel_rfl
/-- Properties in a row of the call's own. -/
def GivesProps (l : List P) (w : World) (e : Ending) (w' : World) : Prop := ∃ A c, e = .returned (.slice A l.length c) ∧ w'.ownsRow w.heap.size 48 4 (.slice A l.length c) l.length (flat l) ∧ Below w.heap.size w w' ∧ l.length ≤ c
theorem own_cap {w : World} {B e c : Nat} {A : Option Addr} {l : List P} (h : w.ownsRow B e 4 (.slice A l.length c) l.length (flat l)) : l.length ≤ c := by
  rcases h.2 with ⟨hv, hn⟩ | ⟨g, cap, cur, hv, _, _, hle, _⟩
  · omega
  · injection hv with _ _ hc
    omega
theorem cells_new (w : World) (T : TypeId) (cs : List Value) (j : Nat) (u : Value) (h : cs[j]? = some u) : (w.alloc (.cells cs.toArray T)).cell? ((⟨w.heap.size, 0, none⟩ : Addr).add j) = some u := by
  rw [add_new, cell_of_row (w.alloc _) w.heap.size j _ _ (0, 0) (heap_alloc_new w _)]
  simpa using h
theorem one_cells (p : P) : ∀ u ∈ pcells p, u.oneCell' = true := by
  intro u hu
  unfold pcells at hu
  simp at hu
  rcases hu with rfl | rfl | rfl | rfl <;> rfl

set_option maxRecDepth 100000 in
set_option maxHeartbeats 4000000 in
theorem CopyProps_is (l : List P) (A : Option Addr) (c : Nat) (w : World) (hm : l.length ≤ 100000) (h : PropsAt w w.heap.size A l) :
    Calls Try.prog 16 #[.slice A l.length c] w (GivesProps l w) := by
  obtain ⟨i0, hi, hz0, hz1, hz2⟩ := info_parts info_prop
  have H := Lib.hid h
  clear h
  go_enter Try.func16, Try.ntmps16
  go_wp2_with fail
  go_loopw [3, 4] (fun m i wr => ∃ k : Nat, k ≤ l.length ∧ i = .int .i64 (k : Int) ∧ wr.ownsRow w.heap.size 48 4 m k (flat (l.take k)) ∧ Below w.heap.size w wr) (fun _ i _ => l.length - (RowKit.intOf i).toNat)
  case atStart => exact ⟨0, Nat.zero_le _, rfl, World.ownsRow_nil _ _ _ _, Below.refl _ _⟩
  case round =>
    obtain ⟨k, hk, rfl, hown, hnx⟩ := hrel
    have h2 := hnx.size
    by_cases hlt : k < l.length
    · obtain ⟨b0, o, rfl, _, hc⟩ := (H.out.below hnx).some_ (by omega)
      obtain ⟨d0, d1, d2, d3⟩ := hc k hlt
      clear hc
      have HS : Hid (flat (l.take (k + 1)) = flat (l.take k) ++ pcells l[k]) := by show _ = _; rw [List.take_succ_eq_append_getElem hlt, flat_snoc]
      obtain ⟨q, hq⟩ : ∃ q, l[k] = q := ⟨_, rfl⟩
      rw [hq] at d0 d1 d2 d3 HS
      clear hq
      obtain ⟨id, n, s, v⟩ := q
      have hkI : (k : Int) < (l.length : Int) := by omega
      have HO := Lib.hid hown
      have HN := Lib.hid hnx
      clear hown hnx
      go_wp2_with (at_builtin; refine wpList_append_own _ rfl _ _ 23 rfl w.heap.size 48 i0 (.agg #[.int .i64 0, .int .i64 0, .string ⟨#[]⟩, .string ⟨#[]⟩]) 4 48 Try.underlying23 hi hz0 hz1 hz2 rfl (by decide) _ _ _ rfl (HO.out.alloc _) ⟨wr.heap.size, 0, none⟩ 1 1 (pcells ⟨id, n, s, v⟩) rfl rfl ?c1 ?c2 ?c3 ?c4 ?c5 ?_)
      case c1 => exact fun _ _ h => h
      case c2 => exact one_cells _
      case c3 => unfold maxLen; omega
      case c4 => omega
      case c5 => omega
      intro v' w1 hown' hgrow _
      have HN' := Lib.hid (HN.out.trans (below_alloc_grown h2 HO.out hgrow))
      have HO' : Hid (w1.ownsRow w.heap.size 48 4 v' (k + 1) (flat (l.take (k + 1)))) := by show World.ownsRow _ _ _ _ _ _ _; rw [HS.out]; exact hown'
      clear hown' hgrow HO HN
      go_wp2
      go_roundw
      case rel => exact ⟨k + 1, hlt, by go_num, HO'.out, HN'.out⟩
      case measure => simp [RowKit.intOf]; omega
    · obtain rfl : k = l.length := by omega
      rw [List.take_length] at hown
      obtain ⟨A', c', hv⟩ := own_slice hown
      have HO := Lib.hid hown
      have HN := Lib.hid hnx
      clear hown hnx
      subst hv
      go_wp2
      go_ret
      exact ⟨A', c', rfl, HO.out, HN.out, own_cap HO.out⟩

/-! ### how much they are -/
def sumW (l : List P) : Nat := l.length + (l.map fun p => p.s.size + p.v.size).sum
theorem sumW_len (l : List P) : l.length ≤ sumW l := by unfold sumW; omega
/-- What the weight is at most where a walk over it has stopped below the bound. -/
def Light (l : List P) (b : Bool) : Prop := b = true → l.length ≤ 10000 ∧ ∀ p ∈ l, p.s.size ≤ 10000 ∧ p.v.size ≤ 10000
def upTo (l : List P) (k : Nat) : Nat := l.length + ((l.take k).map fun p => p.s.size + p.v.size).sum
theorem upTo_zero (l : List P) : upTo l 0 = l.length := by unfold upTo; rw [List.take_zero]; rfl
theorem upTo_step {l : List P} {k : Nat} (hk : k < l.length) : upTo l (k + 1) = upTo l k + (l[k].s.size + l[k].v.size) := by
  unfold upTo
  rw [List.take_succ_eq_append_getElem hk, List.map_append, List.sum_append]
  simp
  omega
theorem upTo_mono {l : List P} {k : Nat} : upTo l k ≤ upTo l (k + 1) := by
  by_cases hk : k < l.length
  · rw [upTo_step hk]; omega
  · unfold upTo
    rw [List.take_of_length_le (by omega), List.take_of_length_le (by omega)]
    exact Nat.le_refl _
theorem upTo_le {l : List P} {j k : Nat} (h : j ≤ k) : upTo l j ≤ upTo l k := by
  induction k with
  | zero => obtain rfl : j = 0 := by omega
            exact Nat.le_refl _
  | succ m ih =>
    by_cases e : j = m + 1
    · subst e; exact Nat.le_refl _
    · exact Nat.le_trans (ih (by omega)) upTo_mono
theorem upTo_light {l : List P} (h : upTo l l.length ≤ 10000) : l.length ≤ 10000 ∧ ∀ p ∈ l, p.s.size ≤ 10000 ∧ p.v.size ≤ 10000 := by
  refine ⟨?_, fun p hp => ?_⟩
  · have := upTo_le (l := l) (j := 0) (k := l.length) (by omega)
    rw [upTo_zero] at this
    omega
  · obtain ⟨j, hj, rfl⟩ := List.getElem_of_mem hp
    have h1 := upTo_le (l := l) (j := j + 1) (k := l.length) (by omega)
    rw [upTo_step hj] at h1
    omega
/-- What the weight comes to: a number that is no less than the bound where the walk stopped ahead of the end. -/
def Weighs (l : List P) (w : World) (e : Ending) (w' : World) : Prop := ∃ m : Nat, e = .returned (.int .i64 (m : Int)) ∧ (m ≤ 10000 → m = upTo l l.length) ∧ m ≤ 9223372036854775807 ∧ ∃ n, w' = w.drewN n
set_option maxRecDepth 100000 in
set_option maxHeartbeats 4000000 in
theorem PropsWeight_is (l : List P) (A : Option Addr) (c B : Nat) (w : World) (hm : l.length ≤ 9223372036854775807) (hfit : ∀ p ∈ l, Fit p) (h : PropsAt w B A l) :
    Calls Try.prog 27 #[.slice A l.length c] w (Weighs l w) := by
  have H := Lib.hid h
  have HF := Lib.hid hfit
  clear h hfit
  go_enter Try.func27, Try.ntmps27
  go_wp2_with fail
  go_loopw [3, 4] (fun m i wr => ∃ k n : Nat, k ≤ l.length ∧ i = .int .i64 (k : Int) ∧ m = .int .i64 ((upTo l k : Nat) : Int) ∧ upTo l k ≤ 9223372036854775807 ∧ wr = w.drewN n) (fun _ i _ => l.length - (RowKit.intOf i).toNat)
  case atStart => exact ⟨0, 0, Nat.zero_le _, rfl, by rw [upTo_zero], by rw [upTo_zero]; exact hm, rfl⟩
  case round =>
    obtain ⟨k, n, hk, rfl, rfl, hb, rfl⟩ := hrel
    by_cases hlt : k < l.length
    · by_cases hgo : upTo l k < 1048576
      · obtain ⟨b0, o, rfl, _, hc⟩ := H.out.some_ (by omega)
        obtain ⟨d0, d1, d2, d3⟩ := hc k hlt
        have hf := HF.out _ (List.getElem_mem hlt)
        have HU := Lib.hid (upTo_step hlt)
        have hs := hf.hs
        have hv := hf.hv
        clear hc d0 d1 hf
        obtain ⟨q, hq⟩ : ∃ q, l[k] = q := ⟨_, rfl⟩
        rw [hq] at d2 d3 hs hv HU
        clear hq
        obtain ⟨U, hU⟩ : ∃ U, upTo l k = U := ⟨_, rfl⟩
        rw [hU] at HU hgo hb ⊢
        clear hU
        have hkI : (k : Int) < (l.length : Int) := by omega
        have hgI : (U : Int) < 1048576 := by omega
        go_wp2
        go_quiet (fail)
        go_wp2
        go_roundw
        case rel => exact ⟨k + 1, _, hlt, by go_num, by rw [HU.out]; go_num, by rw [HU.out]; omega, rfl⟩
        case measure => simp [RowKit.intOf]; omega
      · obtain ⟨U, hU⟩ : ∃ U, upTo l k = U := ⟨_, rfl⟩
        rw [hU] at hgo hb ⊢
        have hd : decide ((U : Int) < 1048576) = false := by simp; omega
        clear hU
        go_wp2
        go_ret
        exact ⟨U, rfl, fun e => by omega, hb, n, rfl⟩
    · obtain rfl : k = l.length := by omega
      obtain ⟨U, hU⟩ : ∃ U, upTo l l.length = U := ⟨_, rfl⟩
      rw [hU] at hb ⊢
      have HU := Lib.hid hU
      clear hU
      go_wp2
      go_ret
      exact ⟨U, rfl, fun _ => HU.out.symm, hb, n, rfl⟩
end Go.Proofs.Ythjlbdplhhgcpaa
