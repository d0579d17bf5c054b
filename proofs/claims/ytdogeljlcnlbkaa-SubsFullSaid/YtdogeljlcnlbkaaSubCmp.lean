/- Package subs: where in subscriptions that rise the one of a topic is. -/
import Derived.Test.YtdogeljlcnlbkaaChecked
import Derived.Test.YtdogeljlcnlbkaaSubMem
import Derived.Lib.Bytealg
namespace Go.Proofs.Ytdogeljlcnlbkaa.Sbs
open Go.RowKit Go.Lib

set_option maxHeartbeats 1000000 in
set_option maxRecDepth 100000 in
theorem CompareString_is (a b : ByteArray) (w : World) :
    Calls Try.prog 38 #[.string a, .string b] w fun e w' => e = .returned (.int .i64 (Lib.compareBytes a.data.toList b.data.toList)) ∧ w = w' := by
  go_enter Try.func38, Try.ntmps38
  go_wp2
  rw [run_callFunc_extern Try.func56 (by kernel_rfl) (by kernel_rfl) (by kernel_rfl) (e := Extern.BytealgCompare.compare) (by kernel_rfl), Lib.run_compareString]
  simp only [Result.andThen]
  rw [Oper.upon_value]
  go_wp2
  go_ret
  exact ⟨rfl, rfl⟩
set_option maxHeartbeats 1000000 in
/-- strings.Compare. -/
theorem Compare_is (a b : ByteArray) (w : World) :
    Calls Try.prog 26 #[.string a, .string b] w fun e w' => e = .returned (.int .i64 (Lib.compareBytes a.data.toList b.data.toList)) ∧ w = w' := by
  go_enter Try.func26, Try.ntmps26
  go_wp2_with (go_at_call 38; refine (CompareString_is _ _ _).mono ?_; rintro e w' ⟨rfl, rfl⟩)
  go_ret
  exact ⟨rfl, rfl⟩

/-- How a topic compares with another. -/
def cmp (a b : List UInt8) : Int := Lib.compareBytes a b
set_option maxRecDepth 100000 in
set_option maxHeartbeats 1000000 in
/-- What the search holds against the topic. -/
theorem held_is (s : Sb) (x : List UInt8) (C : Int) (w : World) (hc : cmp s.t x = C) :
    Calls Try.prog 25 #[sagg s, .string (str x)] w fun e w' => e = .returned (.int .i64 C) ∧ Below w.heap.size w w' := by
  obtain ⟨t, q⟩ := s
  have HC := Lib.hid (fun W => show Calls Try.prog 26 #[.string (str t), .string (str x)] W fun e w' => e = .returned (.int .i64 C) ∧ W = w' from by
    have := Compare_is (str t) (str x) W
    rw [str_data, str_data, show Lib.compareBytes t x = C from hc] at this
    exact this)
  clear hc
  unfold sagg
  dsimp only
  generalize str t = s at HC ⊢
  generalize str x = y at HC ⊢
  go_enter Try.func25, Try.ntmps25
  go_wp2_with (go_at_call 26; refine (HC.out _).mono ?_; rintro e w' ⟨rfl, rfl⟩)
  go_ret
  exact ⟨rfl, (Below.refl _ _).alloc (Nat.le_refl _) _⟩

/-- Where the topic x is in l, or would be, and whether it is there. -/
structure Place (l : List Sb) (x : List UInt8) (a : Nat) (was : Bool) : Prop where
  le : a ≤ l.length
  lo : ∀ i (h : i < l.length), i < a → cmp l[i].t x < 0
  hi : ∀ i (h : i < l.length), a ≤ i → 0 ≤ cmp l[i].t x
  yes : ∀ h : a < l.length, (cmp l[a].t x = 0 ↔ was = true)
  no : l.length ≤ a → was = false

set_option maxRecDepth 100000 in
set_option maxHeartbeats 4000000 in
theorem bsearch_is (l : List Sb) (A : Option Addr) (c : Nat) (x : List UInt8) (a : Nat) (was : Bool) (w : World) (hl : l.length ≤ 1000000) (h : SubsAt w w.heap.size A l) (hp : Place l x a was) :
    Calls Try.prog 24 #[.slice A l.length c, .string (str x), .func (.func 25) #[] #[]] w fun e w' => e = .returned (.tuple #[.int .i64 (a : Int), .bool was]) ∧ Below w.heap.size w w' := by
  have H := Lib.hid h
  have P := Lib.hid hp
  clear h hp
  go_enter Try.func24, Try.ntmps24
  go_wp2_with fail
  go_loopw [9, 10] (fun s9 s10 wr => ∃ lo hi : Nat, s9 = .int .i64 (lo : Int) ∧ s10 = .int .i64 (hi : Int) ∧ lo ≤ a ∧ a ≤ hi ∧ hi ≤ l.length ∧ Below w.heap.size w wr) (fun s9 s10 _ => (RowKit.intOf s10).toNat - (RowKit.intOf s9).toNat)
  case atStart => exact ⟨0, l.length, rfl, rfl, Nat.zero_le _, P.out.le, Nat.le_refl _, Below.refl _ _⟩
  case round =>
    obtain ⟨lo, hi, rfl, rfl, hla, hah, hhl, hb⟩ := hrel
    have HX := Lib.hid hb
    have hsz := hb.size
    clear hb
    by_cases hlt : lo < hi
    · obtain ⟨b0, o, rfl, _, hc⟩ := (H.out.below HX.out).some_ (by omega)
      have hml : (lo + hi) / 2 < l.length := by omega
      obtain ⟨d0, d1, d2, d3, d4, d5, d6, d7, d8⟩ := hc ((lo + hi) / 2) hml
      have plo := P.out.lo ((lo + hi) / 2) hml
      have phi := P.out.hi ((lo + hi) / 2) hml
      clear hc
      generalize l[(lo + hi) / 2] = s at d0 d1 d2 d3 d4 d5 d6 d7 d8 plo phi
      obtain ⟨t, q⟩ := s
      obtain ⟨C, hC⟩ : ∃ C, cmp t x = C := ⟨_, rfl⟩
      have HK := Lib.hid (fun W => held_is ⟨t, q⟩ x C W hC)
      unfold sagg at HK
      dsimp only at HK plo phi d0 d1
      rw [hC] at plo phi
      clear hC
      generalize str t = st at HK d0
      generalize str x = sx at HK
      have hcf : ∀ (args : Array Value) (W : World), (callFunc 25 args).run Try.prog W = .ok (.enter 25 args) W := fun args W => by go_simp
      by_cases hC0 : C < 0
      · have hlam : (lo + hi) / 2 < a := by
          rcases Nat.lt_or_ge ((lo + hi) / 2) a with h | h
          · exact h
          · have := phi h; omega
        clear plo phi
        go_wp2_with fail
        refine (HK.out _).mono ?_
        rintro e w1 ⟨rfl, hb1⟩
        go_wp2_with fail
        go_roundw
        case rel => exact ⟨(lo + hi) / 2 + 1, hi, by rw [show ((lo : Int) + (hi : Int)) / 2 + 1 = (((lo + hi) / 2 + 1 : Nat) : Int) by omega], rfl, by omega, hah, hhl, HX.out.trans (hb1.mono HX.out.size)⟩
        case measure => simp [RowKit.intOf]; omega
      · have hlam : a ≤ (lo + hi) / 2 := by
          rcases Nat.lt_or_ge ((lo + hi) / 2) a with h | h
          · have := plo h; omega
          · exact h
        clear plo phi
        go_wp2_with fail
        refine (HK.out _).mono ?_
        rintro e w1 ⟨rfl, hb1⟩
        go_wp2_with fail
        go_roundw
        case rel => exact ⟨lo, (lo + hi) / 2, rfl, by rw [show ((lo : Int) + (hi : Int)) / 2 = (((lo + hi) / 2 : Nat) : Int) by omega], hla, hlam, by omega, HX.out.trans (hb1.mono HX.out.size)⟩
        case measure => simp [RowKit.intOf]; omega
    · obtain rfl : hi = lo := by omega
      obtain rfl : a = hi := by omega
      by_cases hn : a < l.length
      · obtain ⟨b0, o, rfl, _, hc⟩ := (H.out.below HX.out).some_ (by omega)
        obtain ⟨d0, d1, d2, d3, d4, d5, d6, d7, d8⟩ := hc a hn
        have hy := P.out.yes hn
        clear hc
        generalize l[a] = s at d0 d1 d2 d3 d4 d5 d6 d7 d8 hy
        obtain ⟨t, q⟩ := s
        obtain ⟨C, hC⟩ : ∃ C, cmp t x = C := ⟨_, rfl⟩
        have HK := Lib.hid (fun W => held_is ⟨t, q⟩ x C W hC)
        unfold sagg at HK
        dsimp only at HK hy d0 d1
        rw [hC] at hy
        have hq : (C == 0) = was := by rw [Bool.eq_iff_iff, beq_iff_eq]; exact hy
        clear hC hy
        generalize str t = st at HK d0
        generalize str x = sx at HK
        have hnI : (a : Int) < (l.length : Int) := by omega
        have hcf : ∀ (args : Array Value) (W : World), (callFunc 25 args).run Try.prog W = .ok (.enter 25 args) W := fun args W => by go_simp
        go_wp2_with fail
        refine (HK.out _).mono ?_
        rintro e w1 ⟨rfl, hb1⟩
        go_wp2_with fail
        go_ret2
        exact ⟨rfl, HX.out.trans (hb1.mono HX.out.size)⟩
      · obtain rfl : was = false := P.out.no (by omega)
        have hnI : ¬ (a : Int) < (l.length : Int) := by omega
        go_wp2_with fail
        go_ret2
        exact ⟨rfl, HX.out⟩

set_option maxRecDepth 100000 in
set_option maxHeartbeats 1000000 in
/-- subs.search. -/
theorem search_is (l : List Sb) (A : Option Addr) (c : Nat) (x : List UInt8) (a : Nat) (was : Bool) (w : World) (hl : l.length ≤ 1000000) (h : SubsAt w w.heap.size A l) (hp : Place l x a was) :
    Calls Try.prog 13 #[.slice A l.length c, .string (str x)] w fun e w' => e = .returned (.tuple #[.int .i64 (a : Int), .bool was]) ∧ Below w.heap.size w w' := by
  have HB := Lib.hid (bsearch_is l A c x a was w hl h hp)
  clear h hp
  generalize str x = sx at HB ⊢
  go_enter Try.func13, Try.ntmps13
  go_wp2_with fail
  refine HB.out.mono ?_
  rintro e w1 ⟨rfl, hb1⟩
  go_wp2_with fail
  go_ret2
  exact ⟨rfl, hb1⟩
end Go.Proofs.Ytdogeljlcnlbkaa.Sbs
