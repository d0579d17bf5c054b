/- The statements' small functions: records held against each other, written over, weighed; a number brought within bounds. -/
import Derived.Test.YtimoncjdfmfojaaDoorRcWhole
import Derived.Test.YtimoncjdfmfojaaDoorRcOr
import Derived.Deep.QuietTactic
import Derived.BigQuiet
import Derived.IntWalk
namespace Go.Proofs.YtimoncjdfmfojaaDoor
open Go.RowKit Go.Lib Rcd

/-- The bound of a 64-bit number without a sign. -/
def big64 : Int := 18446744073709551616
/-- Where a number lies among so many. -/
def within (n m : Int) : Int := n % big64 % m
theorem within_lt {n m : Int} (h : 0 < m) : 0 ≤ within n m ∧ within n m < m := ⟨Int.emod_nonneg _ (by omega), Int.emod_lt_of_pos _ h⟩
set_option maxHeartbeats 1000000 in
theorem Within_any (n m : Int) (w : World) (h2 : 0 < m) (h3 : m ≤ 9223372036854775807) :
    Calls Tryd.prog 22 #[.int .i64 n, .int .i64 m] w fun e w' => e = .returned (.int .i64 (within n m)) ∧ w = w' := by
  go_enter Tryd.func22, Tryd.ntmps22
  go_wp2
  go_ret
  refine ⟨ret_int ?_, rfl⟩
  have e : IntKind.u64.wrap n = n % big64 := by unfold IntKind.wrap big64; simp [IntKind.bits, IntKind.signed]
  rw [e, Int.tmod_eq_emod_of_nonneg (Int.emod_nonneg _ (by decide))]
  have hw := within_lt (n := n) h2
  unfold within at hw ⊢
  exact IntWalk.wrap64_in _ ⟨by omega, by omega⟩
theorem within_nat (n m : Int) (h : 0 < m) : ∃ k : Nat, within n m = (k : Int) ∧ (k : Int) < m := by
  obtain ⟨h0, h1⟩ := within_lt (n := n) h
  obtain ⟨k, hk⟩ := Int.eq_ofNat_of_zero_le h0
  exact ⟨k, hk, by omega⟩
theorem Within_is (n m : Int) (k : Nat) (w : World) (h : 0 < m) (h3 : m ≤ 9223372036854775807) (hk : within n m = (k : Int)) :
    Calls Tryd.prog 22 #[.int .i64 n, .int .i64 m] w fun e w' => e = .returned (.int .i64 (k : Int)) ∧ w = w' := by
  rw [← hk]
  exact Within_any n m w h h3

theorem neq_rec (o t : Int) (k b : ByteArray) (q : Int) (g : Bool) (w : World) : (binOp .neq 28 (.agg (rarr o t k b q g)) (.agg (rarr o t k b q g))).run Tryd.prog w = .ok (.bool false) w := by
  unfold rarr
  rw [run_neq_struct]
  go_simp
theorem eql_rec (o t : Int) (k b : ByteArray) (q : Int) (g : Bool) (w : World) : (binOp .eql 28 (.agg (rarr o t k b q g)) (.agg (rarr o t k b q g))).run Tryd.prog w = .ok (.bool true) w := by
  unfold rarr
  rw [run_eql_struct]
  go_simp

set_option maxRecDepth 100000 in
set_option maxHeartbeats 1000000 in
/-- EqRecs of the same records: yes. -/
theorem EqRecs_same (l : List Rc) (A A' : Option Addr) (c c' B B' : Nat) (w : World) (hm : l.length ≤ 9223372036854775807) (h : RecsAt w B A l) (h' : RecsAt w B' A' l) :
    Calls Tryd.prog 20 #[.slice A l.length c, .slice A' l.length c'] w fun e w' => e = .returned (.bool true) ∧ Below w.heap.size w w' := by
  have H := Lib.hid h
  have H' := Lib.hid h'
  clear h h'
  go_enter Tryd.func20, Tryd.ntmps20
  go_wp2_with fail
  go_loopw [5] (fun i wr => ∃ k n : Nat, k ≤ l.length ∧ i = .int .i64 (k : Int) ∧ wr = w.drewN n) (fun i _ => l.length - (RowKit.intOf i).toNat)
  case atStart => exact ⟨0, 0, Nat.zero_le _, rfl, rfl⟩
  case round =>
    obtain ⟨k, n, hk, rfl, rfl⟩ := hrel
    by_cases hlt : k < l.length
    · obtain ⟨b, o, rfl, _, hc⟩ := H.out.some_ (by omega)
      obtain ⟨b', o', rfl, _, hc'⟩ := H'.out.some_ (by omega)
      have h1 := hc k hlt
      have h2 := hc' k hlt
      clear hc hc' H H'
      obtain ⟨x, t, ks, bs, q, g⟩ := l[k]
      obtain ⟨c0, c1, c2, c3, c4, c5⟩ := h1
      obtain ⟨d0, d1, d2, d3, d4, d5⟩ := h2
      generalize str ks = kz at c2 d2
      generalize str bs = bz at c3 d3
      have hkI : (k : Int) < (l.length : Int) := by omega
      have hne := neq_rec x t kz bz q g
      unfold rarr at hne
      go_wp2
      go_quiet (fail)
      go_wp2
      go_roundw
      case rel => exact ⟨k + 1, _, hlt, by go_num, rfl⟩
      case measure => simp [RowKit.intOf]; omega
    · go_wp2
      go_ret
      exact ⟨rfl, below_drewN (Below.refl _ _) n⟩

theorem own_cells {w : World} {B e n g c : Nat} {xs : List Value} (h : w.ownsRow B e 6 (.slice (some ⟨g, 0, none⟩) n c) n xs) {j : Nat} (hj : j < n * 6) : ∃ v, w.cell? ⟨g, j, none⟩ = some v := by
  refine ⟨xs[j]'(by rw [h.1]; exact hj), ?_⟩
  rw [h.cellAt j hj]
  exact List.getElem?_eq_getElem _
theorem own_addr {w : World} {B e n c : Nat} {A : Option Addr} {xs : List Value} (h : w.ownsRow B e 6 (.slice A n c) n xs) (hn : 0 < n) : ∃ g, A = some ⟨g, 0, none⟩ ∧ B ≤ g := by
  rcases h.2 with ⟨_, h0⟩ | ⟨g, cap, cur, hv, hg, _⟩
  · omega
  · injection hv with h1
    exact ⟨g, h1, hg⟩
theorem own_put {w : World} {B e n g c : Nat} {xs : List Value} (h : w.ownsRow B e 6 (.slice (some ⟨g, 0, none⟩) n c) n xs) (j : Nat) (a : Value) :
    (∃ ys, (w.setCell ⟨g, j, none⟩ a).ownsRow B e 6 (.slice (some ⟨g, 0, none⟩) n c) n ys) ∧ Below B w (w.setCell ⟨g, j, none⟩ a) := by
  have hg : B ≤ g := by
    rcases h.2 with ⟨hv, _⟩ | ⟨g', cap, cur, hv, hg, _⟩
    · cases hv
    · injection hv with h1
      injection h1 with h1
      injection h1 with h1
      omega
  exact ⟨⟨_, (h.stored j a).1⟩, (Below.refl B w).setCell (p := ⟨g, j, none⟩) hg _⟩
theorem own_six {w : World} {B e n g c : Nat} {xs : List Value} (h : w.ownsRow B e 6 (.slice (some ⟨g, 0, none⟩) n c) n xs) (j0 j1 j2 j3 j4 j5 : Nat) (a0 a1 a2 a3 a4 a5 : Value) :
    (∃ ys, ((((((w.setCell ⟨g, j0, none⟩ a0).setCell ⟨g, j1, none⟩ a1).setCell ⟨g, j2, none⟩ a2).setCell ⟨g, j3, none⟩ a3).setCell ⟨g, j4, none⟩ a4).setCell ⟨g, j5, none⟩ a5).ownsRow B e 6 (.slice (some ⟨g, 0, none⟩) n c) n ys) ∧
    Below B w ((((((w.setCell ⟨g, j0, none⟩ a0).setCell ⟨g, j1, none⟩ a1).setCell ⟨g, j2, none⟩ a2).setCell ⟨g, j3, none⟩ a3).setCell ⟨g, j4, none⟩ a4).setCell ⟨g, j5, none⟩ a5) := by
  obtain ⟨⟨y0, k0⟩, b0⟩ := own_put h j0 a0
  obtain ⟨⟨y1, k1⟩, b1⟩ := own_put k0 j1 a1
  obtain ⟨⟨y2, k2⟩, b2⟩ := own_put k1 j2 a2
  obtain ⟨⟨y3, k3⟩, b3⟩ := own_put k2 j3 a3
  obtain ⟨⟨y4, k4⟩, b4⟩ := own_put k3 j4 a4
  obtain ⟨⟨y5, k5⟩, b5⟩ := own_put k4 j5 a5
  exact ⟨⟨y5, k5⟩, ((((b0.trans b1).trans b2).trans b3).trans b4).trans b5⟩

set_option maxRecDepth 100000 in
set_option maxHeartbeats 4000000 in
/-- fairwaylaw0.Recs. -/
theorem Spoil_is (B n c : Nat) (A : Option Addr) (xs : List Value) (w : World) (hB : B ≤ w.heap.size) (hn : n ≤ 1000000) (h : w.ownsRow B 28 6 (.slice A n c) n xs) :
    Calls Tryd.prog 21 #[.slice A n c] w fun e w' => (∃ v, e = .returned v) ∧ Below B w w' := by
  obtain ⟨i0, hi, hz0, hz1, hz2⟩ := info_parts info_more
  have H := Lib.hid h
  clear h
  go_enter Tryd.func21, Tryd.ntmps21
  go_wp2_with fail
  go_loopw [2] (fun i wr => ∃ (k : Nat) (ys : List Value), k ≤ n ∧ i = .int .i64 (k : Int) ∧ wr.ownsRow B 28 6 (.slice A n c) n ys ∧ Below B w wr) (fun i _ => n - (RowKit.intOf i).toNat)
  case atStart => exact ⟨0, xs, Nat.zero_le _, rfl, H.out, Below.refl _ _⟩
  case round =>
    obtain ⟨k, ys, hk, rfl, hown, hb⟩ := hrel
    have hBr : B ≤ wr.heap.size := Nat.le_trans hB hb.size
    by_cases hlt : k < n
    · obtain ⟨g, rfl, hg⟩ := own_addr hown (by omega)
      obtain ⟨v0, c0⟩ := own_cells hown (j := k * 6) (by omega)
      obtain ⟨v1, c1⟩ := own_cells hown (j := k * 6 + 1) (by omega)
      obtain ⟨v2, c2⟩ := own_cells hown (j := k * 6 + 2) (by omega)
      obtain ⟨v3, c3⟩ := own_cells hown (j := k * 6 + 3) (by omega)
      obtain ⟨v4, c4⟩ := own_cells hown (j := k * 6 + 4) (by omega)
      obtain ⟨v5, c5⟩ := own_cells hown (j := k * 6 + 5) (by omega)
      have f0 := hown.frozenAt (k * 6)
      have f1 := hown.frozenAt (k * 6 + 1)
      have f2 := hown.frozenAt (k * 6 + 2)
      have f3 := hown.frozenAt (k * 6 + 3)
      have f4 := hown.frozenAt (k * 6 + 4)
      have f5 := hown.frozenAt (k * 6 + 5)
      have H4 := Lib.hid (own_six hown (k * 6) (k * 6 + 1) (k * 6 + 2) (k * 6 + 3) (k * 6 + 4) (k * 6 + 5) (.int .i64 (-9)) (.int .i64 0) (.string ⟨#[]⟩) (.string ⟨#[]⟩) (.int .i64 0) (.bool false))
      have HB := Lib.hid hb
      have hkI : (k : Int) < (n : Int) := by omega
      clear hown hb H
      go_wp2_with fail
      go_roundw
      case rel =>
        obtain ⟨⟨zs, hz⟩, hbb⟩ := H4.out
        exact ⟨k + 1, zs, hlt, by go_num, hz, HB.out.trans hbb⟩
      case measure => simp [RowKit.intOf]; omega
    · obtain rfl : k = n := by omega
      have HO := Lib.hid hown
      have HB := Lib.hid hb
      clear hown hb H
      go_wp2_with (at_builtin; refine wpList_append_own _ rfl _ _ 24 rfl B 28 i0 (.agg zcells) 6 64 Tryd.underlying24 hi hz0 hz1 hz2 rfl (by decide) _ _ _ rfl (HO.out.alloc _) ⟨wr.heap.size, 0, none⟩ 1 1 [.int .i64 0, .int .i64 0, .string ⟨#[]⟩, .string ⟨#[]⟩, .int .i64 0, .bool false] rfl rfl ?c1 ?c2 ?c3 ?c4 ?c5 ?_)
      case c1 => exact fun jj uu h => cells_new wr _ [.int .i64 0, .int .i64 0, .string ⟨#[]⟩, .string ⟨#[]⟩, .int .i64 0, .bool false] jj uu h
      case c2 => exact one_cells zero
      case c3 => unfold maxLen; omega
      case c4 => first | omega | (simp; omega)
      case c5 => simp; omega
      intro v' w1 hown' hgrow _
      have hnx := HB.out.trans (below_alloc_grown hBr HO.out hgrow)
      have HN := Lib.hid hnx
      clear hown' hgrow hnx
      go_wp2_with fail
      exact bodyPost_end (v := .tuple #[]) (by simp [results, Tryd.results21]) rfl ⟨⟨_, rfl⟩, HN.out⟩

set_option maxRecDepth 100000 in
set_option maxHeartbeats 4000000 in
/-- fairwaylaw0.RecsWeight: some number. -/
theorem Weight_is (l : List Rc) (A : Option Addr) (c B : Nat) (w : World) (hm : l.length ≤ 9223372036854775807) (h : RecsAt w B A l) :
    Calls Tryd.prog 23 #[.slice A l.length c] w fun e w' => (∃ z, e = .returned (.int .i64 z)) ∧ Below w.heap.size w w' := by
  have H := Lib.hid h
  clear h
  go_enter Tryd.func23, Tryd.ntmps23
  go_wp2_with fail
  go_loopw [3, 4] (fun v i wr => ∃ (k n : Nat) (z : Int), k ≤ l.length ∧ v = .int .i64 z ∧ i = .int .i64 (k : Int) ∧ wr = w.drewN n) (fun _ i _ => l.length - (RowKit.intOf i).toNat)
  case atStart => exact ⟨0, 0, _, Nat.zero_le _, rfl, rfl, rfl⟩
  case round =>
    obtain ⟨k, n, z, hk, rfl, rfl, rfl⟩ := hrel
    by_cases hgo : k < l.length ∧ z < 1048576
    · obtain ⟨hlt, hz⟩ := hgo
      obtain ⟨b, o, rfl, _, hc⟩ := H.out.some_ (by omega)
      have h1 := hc k hlt
      clear hc H
      obtain ⟨x, t, ks, bs, q, g⟩ := l[k]
      obtain ⟨c0, c1, c2, c3, c4, c5⟩ := h1
      generalize str ks = kz at c2
      generalize str bs = bz at c3
      have hkI : (k : Int) < (l.length : Int) := by omega
      have hd1 : decide ((k : Int) < (l.length : Int)) = true := decide_eq_true hkI
      have hd2 : decide (k < l.length) = true := decide_eq_true hlt
      have hd3 : decide (z < 1048576) = true := decide_eq_true hz
      go_wp2
      go_quiet (fail)
      go_wp2
      go_roundw
      case rel => exact ⟨k + 1, _, _, hlt, rfl, by go_num, rfl⟩
      case measure => simp [RowKit.intOf]; omega
    · go_wp2
      all_goals (go_ret; exact ⟨⟨_, rfl⟩, below_drewN (Below.refl _ _) n⟩)
end Go.Proofs.YtimoncjdfmfojaaDoor
