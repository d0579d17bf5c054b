/- What the seventh layer's statements share: what weighs much, an error's number, two lists of texts held against each other, what is written over, and what is asked last. -/
import Derived.Test.YtpmcfnancbbgoaaNameMatch
import Derived.Test.YtpmcfnancbbgoaaNameRLevels
namespace Go.Proofs.Ytpmcfnancbbgoaa
open Go.RowKit Go.Lib Txt Nam

set_option maxHeartbeats 1000000 in
theorem num_is (n : Int) (w : World) : Calls Try.prog 11 #[.int .i64 n] w fun e w' => e = .returned (.int .i64 n) ∧ w = w' := by
  go_enter Try.func11, Try.ntmps11
  go_wp2
  go_ret
  exact ⟨rfl, rfl⟩

set_option maxRecDepth 100000 in
set_option maxHeartbeats 1000000 in
theorem heavy_is (f t : ByteArray) (b : Bool) (w : World) (h0 : f.size ≤ 140737488351232) (h1 : t.size ≤ 140737488351232) (hb : decide (4000 < f.size + t.size) = b) :
    Calls Try.prog 7 #[.agg #[.string f, .string t]] w fun e w' => e = .returned (.bool b) ∧ Below w.heap.size w w' := by
  have HB := Lib.hid hb
  clear hb
  go_enter Try.func7, Try.ntmps7
  go_wp2
  go_ret
  refine ⟨ret_bool ?_, (Below.refl _ _).alloc (Nat.le_refl _) _⟩
  rw [← HB.out, decide_eq_decide]
  omega

set_option maxRecDepth 100000 in
set_option maxHeartbeats 1000000 in
/-- EqStrings of the same texts: yes. -/
theorem EqStrings_same (xs : List (List UInt8)) (A A' : Option Addr) (c c' B B' : Nat) (w : World) (hm : xs.length ≤ 9223372036854775807) (h : Strs w B A xs) (h' : Strs w B' A' xs) :
    Calls Try.prog 16 #[.slice A xs.length c, .slice A' xs.length c'] w fun e w' => e = .returned (.bool true) ∧ ∃ n, w' = w.drewN n := by
  have H := Lib.hid h
  have H' := Lib.hid h'
  clear h h'
  go_enter Try.func16, Try.ntmps16
  go_wp2_with fail
  go_loopw [5] (fun i wr => ∃ k n : Nat, k ≤ xs.length ∧ i = .int .i64 (k : Int) ∧ wr = w.drewN n) (fun i _ => xs.length - (RowKit.intOf i).toNat)
  case atStart => exact ⟨0, 0, Nat.zero_le _, rfl, rfl⟩
  case round =>
    obtain ⟨k, n, hk, rfl, rfl⟩ := hrel
    by_cases hlt : k < xs.length
    · obtain ⟨a, rfl, _, hc⟩ := H.out.some_ (by omega)
      obtain ⟨a', rfl, _, hc'⟩ := H'.out.some_ (by omega)
      have h1 := hc k hlt
      have h2 := hc' k hlt
      generalize str (xs.getD k []) = s at h1 h2
      clear hc hc' H H'
      have hkI : (k : Int) < (xs.length : Int) := by omega
      go_wp2
      go_quiet (fail)
      go_wp2
      go_roundw
      case rel => exact ⟨k + 1, _, hlt, by go_num, rfl⟩
      case measure => simp [RowKit.intOf]; omega
    · go_wp2
      go_ret
      exact ⟨rfl, n, rfl⟩

theorem own1_cells {w : World} {B e n g c : Nat} {xs : List Value} (h : w.ownsRow B e 1 (.slice (some ⟨g, 0, none⟩) n c) n xs) {j : Nat} (hj : j < n) : ∃ v, w.cell? ⟨g, j, none⟩ = some v := by
  refine ⟨xs[j]'(by rw [h.1]; omega), ?_⟩
  rw [h.cellAt j (by omega)]
  exact List.getElem?_eq_getElem _
theorem own1_addr {w : World} {B e n c : Nat} {A : Option Addr} {xs : List Value} (h : w.ownsRow B e 1 (.slice A n c) n xs) (hn : 0 < n) : ∃ g, A = some ⟨g, 0, none⟩ ∧ B ≤ g := by
  rcases h.2 with ⟨_, h0⟩ | ⟨g, cap, cur, hv, hg, _⟩
  · omega
  · injection hv with h1
    exact ⟨g, h1, hg⟩

set_option maxRecDepth 100000 in
set_option maxHeartbeats 4000000 in
/-- What a statement does with levels that it was given: it writes over them, and appends. -/
theorem Spoil_is (B n c : Nat) (A : Option Addr) (xs : List Value) (w : World) (hB : B ≤ w.heap.size) (hn : n ≤ 1000001) (h : w.ownsRow B 9 1 (.slice A n c) n xs) :
    Calls Try.prog 18 #[.slice A n c] w fun e w' => (∃ v, e = .returned v) ∧ Below B w w' := by
  obtain ⟨i0, hi, hz0, hz1, hz2⟩ := info_parts info_string
  have H := Lib.hid h
  clear h
  go_enter Try.func18, Try.ntmps18
  go_wp2_with fail
  go_loopw [2] (fun i wr => ∃ (k : Nat) (ys : List Value), k ≤ n ∧ i = .int .i64 (k : Int) ∧ wr.ownsRow B 9 1 (.slice A n c) n ys ∧ Below B w wr) (fun i _ => n - (RowKit.intOf i).toNat)
  case atStart => exact ⟨0, xs, Nat.zero_le _, rfl, H.out, Below.refl _ _⟩
  case round =>
    obtain ⟨k, ys, hk, rfl, hown, hb⟩ := hrel
    have hBr : B ≤ wr.heap.size := Nat.le_trans hB hb.size
    by_cases hlt : k < n
    · obtain ⟨g, rfl, hg⟩ := own1_addr hown (by omega)
      obtain ⟨v0, c0⟩ := own1_cells hown hlt
      have f0 := hown.frozenAt k
      have H1 := Lib.hid (hown.stored k (.string ⟨#[63]⟩)).1
      have HB := Lib.hid (hb.trans ((Below.refl B wr).setCell (p := ⟨g, k, none⟩) hg (.string ⟨#[63]⟩)))
      have hkI : (k : Int) < (n : Int) := by omega
      clear hown hb H
      go_wp2_with fail
      go_roundw
      case rel => exact ⟨k + 1, _, hlt, by go_num, H1.out, HB.out⟩
      case measure => simp [RowKit.intOf]; omega
    · obtain rfl : k = n := by omega
      have HO := Lib.hid hown
      have HB := Lib.hid hb
      clear hown hb H
      go_wp2_with (at_builtin; refine wpList_append_own _ rfl _ _ 26 rfl B 9 i0 (.string ⟨#[]⟩) 1 16 Try.underlying26 hi hz0 hz1 hz2 rfl (by decide) _ _ _ rfl (HO.out.alloc _) ⟨wr.heap.size, 0, none⟩ 1 1 [.string ⟨#[63]⟩] rfl rfl ?c1 ?c2 ?c3 ?c4 ?c5 ?_)
      case c1 => exact cell_one_new _ _ _
      case c2 => intro u hu; simp at hu; subst hu; rfl
      case c3 => unfold maxLen; omega
      case c4 => first | omega | (simp; omega)
      case c5 => simp; omega
      intro v' w1 hown' hgrow _
      have hnx := HB.out.trans (below_alloc_grown hBr HO.out hgrow)
      have HN := Lib.hid hnx
      clear hown' hgrow hnx
      go_wp2_with fail
      exact bodyPost_end (v := .tuple #[]) (by simp [results, Try.results18]) rfl ⟨⟨_, rfl⟩, HN.out⟩

set_option maxRecDepth 100000 in
set_option maxHeartbeats 1000000 in
/-- What every statement asks last. -/
theorem wakes_is (w : World) : Calls Try.prog 19 #[] w fun e w' => e = .returned (.bool true) ∧ Below w.heap.size w w' := by
  have H1 := Lib.hid (fun W => Match_is ⟨#[97, 47, 35]⟩ ⟨#[97, 47, 98]⟩ true W (by decide) (by decide) (by decide +kernel))
  have H2 := Lib.hid (fun W => Match_is ⟨#[97, 47, 43]⟩ ⟨#[98, 47, 98]⟩ false W (by decide) (by decide) (by decide +kernel))
  go_enter Try.func19, Try.ntmps19
  go_wp2_with fail
  refine (H1.out _).mono ?_
  rintro e w1 ⟨rfl, hb1⟩
  go_wp2_with fail
  refine (H2.out _).mono ?_
  rintro e w2 ⟨rfl, hb2⟩
  go_wp2_with fail
  go_ret
  exact ⟨rfl, hb1.trans (hb2.mono hb1.size)⟩
end Go.Proofs.Ytpmcfnancbbgoaa
