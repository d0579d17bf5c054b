/- VbiEdges: at each end of a number's bytes one byte more is taken, four are the most, and a needless nought is none. -/
import Derived.Test.YtjpngjhfakgefaaVbiTakes
namespace Go.Proofs.Ytjpngjhfakgefaa
open Go.RowKit Go.Lib Vbi

theorem edge (n k : Nat) (hn : n < 268435456) (hk : numLen n = k) : ∃ S : ByteArray, S.size = k ∧ ∀ W, Calls Try.prog 9 #[.int .i64 (n : Int)] W fun e w' => e = .returned (.tuple #[.string S, .int .i64 0]) ∧ Below W.heap.size W w' :=
  ⟨strOfNums (numZ n), by rw [strOfNums_size, numZ_len hn, hk], fun W => Num_good n W hn⟩
def endAt : Nat → Int
  | 0 => 0 | 1 => 127 | 2 => 128 | 3 => 16383 | 4 => 16384 | 5 => 2097151 | 6 => 2097152 | _ => 268435455
def lenAt : Nat → Int
  | 0 => 1 | 1 => 1 | 2 => 2 | 3 => 2 | 4 => 3 | 5 => 3 | 6 => 4 | _ => 4
theorem edge_at (k : Nat) (hk : k < 8) : ∃ S : ByteArray, (S.size : Int) = lenAt k ∧ ∀ W, Calls Try.prog 9 #[.int .i64 (endAt k)] W fun e w' => e = .returned (.tuple #[.string S, .int .i64 0]) ∧ Below W.heap.size W w' := by
  rcases (by omega : k = 0 ∨ k = 1 ∨ k = 2 ∨ k = 3 ∨ k = 4 ∨ k = 5 ∨ k = 6 ∨ k = 7) with rfl | rfl | rfl | rfl | rfl | rfl | rfl | rfl
  · obtain ⟨S, h1, h2⟩ := edge 0 1 (by omega) rfl; exact ⟨S, by rw [h1]; rfl, h2⟩
  · obtain ⟨S, h1, h2⟩ := edge 127 1 (by omega) rfl; exact ⟨S, by rw [h1]; rfl, h2⟩
  · obtain ⟨S, h1, h2⟩ := edge 128 2 (by omega) rfl; exact ⟨S, by rw [h1]; rfl, h2⟩
  · obtain ⟨S, h1, h2⟩ := edge 16383 2 (by omega) rfl; exact ⟨S, by rw [h1]; rfl, h2⟩
  · obtain ⟨S, h1, h2⟩ := edge 16384 3 (by omega) rfl; exact ⟨S, by rw [h1]; rfl, h2⟩
  · obtain ⟨S, h1, h2⟩ := edge 2097151 3 (by omega) rfl; exact ⟨S, by rw [h1]; rfl, h2⟩
  · obtain ⟨S, h1, h2⟩ := edge 2097152 4 (by omega) rfl; exact ⟨S, by rw [h1]; rfl, h2⟩
  · obtain ⟨S, h1, h2⟩ := edge 268435455 4 (by omega) rfl; exact ⟨S, by rw [h1]; rfl, h2⟩
theorem lenAt_le (k : Nat) : 1 ≤ lenAt k ∧ lenAt k ≤ 4 := by
  unfold lenAt; split <;> omega

def ends : List Int := [0, 127, 128, 16383, 16384, 2097151, 2097152, 268435455]
def lens : List Int := [1, 1, 2, 2, 3, 3, 4, 4]
theorem ends_at (k : Nat) (hk : k < 8) : ends.getD k 0 = endAt k ∧ lens.getD k 0 = lenAt k := by
  rcases (by omega : k = 0 ∨ k = 1 ∨ k = 2 ∨ k = 3 ∨ k = 4 ∨ k = 5 ∨ k = 6 ∨ k = 7) with rfl | rfl | rfl | rfl | rfl | rfl | rfl | rfl <;> exact ⟨rfl, rfl⟩
theorem nums_at {w : World} {B g k : Nat} {xs : List Int} (h : Nums w B .i64 (some ⟨g, 0, none⟩) xs) (hk : k < xs.length) : w.cell? ⟨g, k, none⟩ = some (.int .i64 (xs.getD k 0)) ∧ g < B := by
  obtain ⟨a, ha, hb, hc⟩ := h.some_ (by omega)
  injection ha with ha
  subst ha
  have := hc k hk
  rw [add_new] at this
  exact ⟨this, hb⟩

set_option maxRecDepth 100000 in
set_option maxHeartbeats 8000000 in
theorem VbiEdges_any (A : Option Addr) (n c : Nat) (w : World) :
    Calls Try.prog 8 #[.slice A n c] w fun e w' => e = .returned (.bool true) ∧ Below w.heap.size w w' := by
  have HB1 := Lib.hid (fun W => Num_bad 268435456 W (by omega))
  have HB2 := Lib.hid (fun W => Num_bad (-1) W (by omega))
  have HT1 := Lib.hid (fun W => TakeNum_is ⟨#[255, 255, 255, 255]⟩ 0 0 8 W (by decide) (by decide))
  have HT2 := Lib.hid (fun W => TakeNum_is ⟨#[128, 0]⟩ 0 0 8 W (by decide) (by decide))
  have HT3 := Lib.hid (fun W => TakeNum_is ⟨#[255, 255, 255]⟩ 0 0 7 W (by decide) (by decide))
  go_enter Try.func8, Try.ntmps8
  go_wp2_with fail
  go_loopw [5] (fun i wr => ∃ k : Nat, k ≤ 8 ∧ i = .int .i64 (k : Int) ∧ Nums wr (w.heap.size + 2) .i64 (some ⟨w.heap.size, 0, none⟩) ends ∧ Nums wr (w.heap.size + 2) .i64 (some ⟨w.heap.size + 1, 0, none⟩) lens ∧ w.heap.size + 2 ≤ wr.heap.size ∧ Below w.heap.size w wr) (fun i _ => 8 - (RowKit.intOf i).toNat)
  case atStart =>
    refine ⟨0, by omega, rfl, ?_, ?_, by simp, (((Below.refl _ _).alloc (Nat.le_refl _) _).alloc (by simp) _)⟩
    · exact ((lit_nums w _ ends .i64 3 rfl).alloc (by simp) _).mono (by omega)
    · have := lit_nums (w.alloc (.cells #[.int .i64 0, .int .i64 127, .int .i64 128, .int .i64 16383, .int .i64 16384, .int .i64 2097151, .int .i64 2097152, .int .i64 268435455] 3)) #[.int .i64 1, .int .i64 1, .int .i64 2, .int .i64 2, .int .i64 3, .int .i64 3, .int .i64 4, .int .i64 4] lens .i64 3 rfl
      simpa using this
  case round =>
    obtain ⟨k, hk8, rfl, n1, n2, hz, hnx⟩ := hrel
    by_cases hk : k < 8
    · obtain ⟨S, hS, hc⟩ := edge_at k hk
      have q1 := (nums_at n1 (k := k) hk).1
      have q2 := (nums_at n2 (k := k) hk).1
      rw [(ends_at k hk).1] at q1
      rw [(ends_at k hk).2] at q2
      have hkI : (k : Int) < 8 := by omega
      have hbq : ((S.size : Int) != lenAt k) = false := by rw [bne_eq_false_iff_eq]; exact hS
      have HC := Lib.hid hc
      have HQ : ∀ w1, Below wr.heap.size wr w1 → w1.cell? ⟨w.heap.size + 1, k, none⟩ = some (.int .i64 (lenAt k)) := fun w1 hb => (hb.cell (p := ⟨w.heap.size + 1, k, none⟩) (by show w.heap.size + 1 < _; omega)).trans q2
      have HQ' := Lib.hid HQ
      have HN1 := Lib.hid n1
      have HN2 := Lib.hid n2
      have HX := Lib.hid hnx
      have hkm := lenAt_le k
      clear hc hS q2 HQ n1 n2 hnx
      generalize endAt k = v at q1 HC
      generalize lenAt k = u at hbq HQ' hkm
      go_wp2_with fail
      refine (HC.out _).mono ?_
      rintro e w1 ⟨rfl, hb1⟩
      have q2 := HQ'.out _ hb1
      have hz1 := hb1.size
      have HB := Lib.hid hb1
      clear q1 hb1 HQ'
      go_wp2_with (go_at_call 15; refine (num_same _ _).mono ?_; rintro e w' ⟨rfl, rfl⟩)
      go_roundw
      case rel => exact ⟨k + 1, by omega, by go_num, HN1.out.below (HB.out.mono hz), HN2.out.below (HB.out.mono hz), by omega, HX.out.trans (HB.out.mono (by omega))⟩
      case measure => simp [RowKit.intOf]; omega
    · obtain rfl : k = 8 := by omega
      have HX := Lib.hid hnx
      clear n1 n2 hnx
      go_wp2_with fail
      refine (HB1.out _).mono ?_
      rintro e w1 ⟨rfl, hb1⟩
      have HX1 := Lib.hid (HX.out.trans (hb1.mono HX.out.size))
      clear hb1
      go_wp2_with fail
      refine (HB2.out _).mono ?_
      rintro e w2 ⟨rfl, hb2⟩
      have HX2 := Lib.hid (HX1.out.trans (hb2.mono HX1.out.size))
      clear hb2
      go_wp2_with fail
      refine (HT1.out _).mono ?_
      rintro e w' ⟨rfl, rfl⟩
      go_wp2_with fail
      refine (HT2.out _).mono ?_
      rintro e w' ⟨rfl, rfl⟩
      go_wp2_with fail
      refine (HT3.out _).mono ?_
      rintro e w' ⟨rfl, rfl⟩
      go_wp2_with (first | (go_at_call 15; refine (num_same _ _).mono ?_; rintro e w' ⟨rfl, rfl⟩) | (go_at_call 16; refine (wakes_any _).mono ?_; rintro e w3 ⟨rfl, hb3⟩))
      go_ret
      exact ⟨rfl, HX2.out.trans (hb3.mono HX2.out.size)⟩
end Go.Proofs.Ytjpngjhfakgefaa
