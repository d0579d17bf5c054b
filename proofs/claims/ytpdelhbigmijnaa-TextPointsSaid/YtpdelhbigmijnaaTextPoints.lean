/- TextPoints: the code points that the law names may be in a text or may not, as it says; each as long as it is to be. -/
import Derived.Test.YtpdelhbigmijnaaTextAsks
import Derived.Test.YtpdelhbigmijnaaTextOf
import Derived.Test.YtpdelhbigmijnaaTextRunes
import Derived.Test.YtpdelhbigmijnaaTextCut
namespace Go.Proofs.Ytpdelhbigmijnaa
open Go.RowKit Go.Lib Txt

theorem Of_is (xs : List Int) (n : Nat) (S : ByteArray) (E : Int) (A : Option Addr) (c B : Nat) (w : World) (hn : n = xs.length) (hm : xs.length ≤ 9223372036854775807) (h : Nums w B .i32 A xs) (hS : ofStr xs = S) (hE : ofErr xs = E) :
    Calls Try.prog 16 #[.slice A n c] w fun e w' => e = .returned (.tuple #[.string S, .int .i64 E]) ∧ w = w' := by
  subst hn; rw [← hS, ← hE]; exact Of_any xs A c B w hm h

def goodL : List Int := [32, 126, 160, 0x7ff, 0x800, 0xd7ff, 0xe000, 0xfdcf, 0xfdf0, 0xfffd, 0x10000, 0x1fffd, 0x10fffd]
def sizeL : List Int := [1, 1, 2, 2, 3, 3, 3, 3, 3, 3, 4, 4, 4]
def badL : List Int := [0, 1, 31, 127, 159, 0xd800, 0xdfff, 0xfdd0, 0xfdef, 0xfffe, 0xffff, 0x1fffe, 0x10ffff, 0x110000, -1]
def rawL : List (List UInt8) := [[128], [192, 175], [193, 191], [224, 128, 175], [237, 160, 128], [240, 128, 128, 175], [244, 144, 128, 128], [248, 136, 128, 128, 128], [226, 130], [255], [239, 191, 190], [97, 0]]
theorem goods : ∀ k : Fin 13, ofErr [goodL.getD k.val 0] = 0 ∧ ((ofStr [goodL.getD k.val 0]).size : Int) = sizeL.getD k.val 0 ∧ textErr (ofStr [goodL.getD k.val 0]).data.toList = 0 := by decide +kernel
theorem bads : ∀ k : Fin 15, ofErr [97, badL.getD k.val 0] = 8 := by decide +kernel
theorem raws : ∀ k : Fin 12, textErr (rawL.getD k.val []) = 8 := by decide +kernel

theorem raw_size : ∀ k : Fin 12, (⟨(rawL.getD k.val []).toArray⟩ : ByteArray).size ≤ 8 := by decide +kernel
theorem raw_cells : ∀ k : Fin 12, (#[.string ⟨#[128]⟩, .string ⟨#[192, 175]⟩, .string ⟨#[193, 191]⟩, .string ⟨#[224, 128, 175]⟩, .string ⟨#[237, 160, 128]⟩, .string ⟨#[240, 128, 128, 175]⟩, .string ⟨#[244, 144, 128, 128]⟩, .string ⟨#[248, 136, 128, 128, 128]⟩, .string ⟨#[226, 130]⟩, .string ⟨#[255]⟩, .string ⟨#[239, 191, 190]⟩, .string ⟨#[97, 0]⟩] : Array Value)[k.val]? = some (.string ⟨(rawL.getD k.val []).toArray⟩) := by
  intro k
  match k with
  | ⟨0, _⟩ | ⟨1, _⟩ | ⟨2, _⟩ | ⟨3, _⟩ | ⟨4, _⟩ | ⟨5, _⟩ | ⟨6, _⟩ | ⟨7, _⟩ | ⟨8, _⟩ | ⟨9, _⟩ | ⟨10, _⟩ | ⟨11, _⟩ => rfl
theorem cell_of_nums {w : World} {B b : Nat} {k : IntKind} {xs : List Int} (h : Nums w B k (some ⟨b, 0, none⟩) xs) (j : Nat) (hj : j < xs.length) : w.cell? ⟨b, j, none⟩ = some (.int k (xs.getD j 0)) ∧ b < B := by
  obtain ⟨a, ha, hb, hc⟩ := h.some_ (by omega)
  injection ha with ha
  subst ha
  have := hc j hj
  rw [add_new] at this
  exact ⟨this, hb⟩
theorem alloc_cell {w : World} {b j : Nat} {v : Value} (h : w.cell? ⟨b, j, none⟩ = some v) (o : Obj) : (w.alloc o).cell? ⟨b, j, none⟩ = some v := by
  rw [World.cell?_alloc_lt w o ⟨b, j, none⟩ (cell_lt h)]; exact h

set_option maxRecDepth 100000 in
set_option maxHeartbeats 4000000 in
theorem TextPoints_any (A : Option Addr) (n c : Nat) (w : World) (_h : Asks w A n) :
    Calls Try.prog 7 #[.slice A n c] w fun e w' => e = .returned (.bool true) ∧ Below w.heap.size w w' := by
  go_enter Try.func7, Try.ntmps7
  go_wp2_with fail
  go_loopw [5] (fun i wr => ∃ k : Nat, k ≤ 13 ∧ i = .int .i64 (k : Int) ∧ Nums wr wr.heap.size .i32 (some ⟨w.heap.size, 0, none⟩) goodL ∧ Nums wr wr.heap.size .i64 (some ⟨w.heap.size + 1, 0, none⟩) sizeL ∧ Below w.heap.size w wr) (fun i _ => 13 - (RowKit.intOf i).toNat)
  case atStart =>
    refine ⟨0, by omega, rfl, ?_, ?_, ((Below.refl _ w).alloc (Nat.le_refl _) _).alloc (by simp) _⟩
    · exact ((lit_nums w _ goodL .i32 21 rfl).alloc (by simp) _).mono (by simp)
    · have := lit_nums (w.alloc (.cells (goodL.map (Value.int .i32)).toArray 21)) _ sizeL .i64 3 rfl
      simp only [World.size_alloc] at this
      exact this.mono (by simp)
  case round =>
    obtain ⟨k, hk, rfl, hn1, hn2, hnx⟩ := hrel
    have hs1 := hnx.size
    by_cases hlt : k < 13
    · obtain ⟨p1, b1⟩ := cell_of_nums hn1 k hlt
      obtain ⟨p2, b2⟩ := cell_of_nums hn2 k hlt
      obtain ⟨g1, g2, g3⟩ := goods ⟨k, hlt⟩
      simp only [] at g1 g2 g3
      have hkI : (k : Int) < 13 := by omega
      generalize goodL.getD k 0 = r at p1 g1 g2 g3
      generalize sizeL.getD k 0 = z at p2 g2
      have HN1 := Lib.hid hn1
      have HN2 := Lib.hid hn2
      have HX := Lib.hid hnx
      obtain ⟨S, hS⟩ : ∃ S, ofStr [r] = S := ⟨_, rfl⟩
      rw [hS] at g2 g3
      have hsz : S.size ≤ 9223372036854775807 := by
        have : (ofStr [r]).size ≤ 1024 := by
          rcases textErr_cases S.data.toList with ⟨_, _, hl⟩ | ⟨h0, _⟩
          · rw [hS, Lib.size_eq]; exact hl
          · exact absurd g3 h0
        rw [hS] at this; omega
      have HOf := Lib.hid (Of_is [r] 1 S 0 (some ⟨wr.heap.size, 0, none⟩) 1 _ (wr.alloc (.cells #[.int .i32 r] 21)) rfl (by simp) (lit_nums wr #[.int .i32 r] [r] .i32 21 rfl) hS g1)
      have HCk := Lib.hid (fun W => Check_is S 0 W hsz g3)
      have p3 := alloc_cell p2 (.cells #[.int .i32 r] 21)
      subst g2
      clear hn1 hn2 hnx hS g1 g3 p2
      go_wp2_with (first | (go_at_call 16; refine HOf.out.mono ?_; rintro e w' ⟨rfl, rfl⟩) | (go_at_call 12; refine (num_same _ _).mono ?_; rintro e w' ⟨rfl, rfl⟩) | (go_at_call 13; refine (HCk.out _).mono ?_; rintro e w2 ⟨rfl, hb2⟩))
      have hb3 : Below wr.heap.size wr w2 := ((Below.refl _ wr).alloc (Nat.le_refl _) _).trans (hb2.mono (by simp))
      go_roundw
      case rel => exact ⟨k + 1, hlt, by go_num, (HN1.out.below hb3).mono hb3.size, (HN2.out.below hb3).mono hb3.size, HX.out.trans (hb3.mono hs1)⟩
      case measure => simp [RowKit.intOf]; omega
    · have hk13 : 13 ≤ k := by omega
      obtain ⟨wo, rfl⟩ : ∃ wo : World, wo = wr := ⟨_, rfl⟩
      clear hn1 hn2
      have HX := Lib.hid hnx
      clear hnx
      go_wp2_with fail
      go_loopw [9] (fun i wr => ∃ k : Nat, k ≤ 15 ∧ i = .int .i64 (k : Int) ∧ Nums wr wr.heap.size .i32 (some ⟨wo.heap.size, 0, none⟩) badL ∧ Below w.heap.size w wr) (fun i _ => 15 - (RowKit.intOf i).toNat)
      case atStart =>
        refine ⟨0, by omega, rfl, ?_, HX.out.alloc hs1 _⟩
        exact (lit_nums wo _ badL .i32 21 rfl).mono (by simp)
      case round =>
        obtain ⟨j, hj, rfl, hn1, hnx⟩ := hrel
        have hs2 := hnx.size
        by_cases hjl : j < 15
        · obtain ⟨p1, b1⟩ := cell_of_nums hn1 j hjl
          have g1 := bads ⟨j, hjl⟩
          simp only [] at g1
          have hjI : (j : Int) < 15 := by omega
          generalize badL.getD j 0 = r at p1 g1
          have HN1 := Lib.hid hn1
          have HX2 := Lib.hid hnx
          have hS : ofStr [97, r] = ⟨#[]⟩ := by unfold ofStr; rw [g1]; rfl
          have HOf := Lib.hid (Of_is [97, r] 2 ⟨#[]⟩ 8 (some ⟨wr.heap.size, 0, none⟩) 2 _ (wr.alloc (.cells #[.int .i32 97, .int .i32 r] 21)) rfl (by simp) (lit_nums wr #[.int .i32 97, .int .i32 r] [97, r] .i32 21 rfl) hS g1)
          clear hn1 hnx hS g1
          go_wp2_with (first | (go_at_call 16; refine HOf.out.mono ?_; rintro e w' ⟨rfl, rfl⟩) | (go_at_call 12; refine (num_same _ _).mono ?_; rintro e w' ⟨rfl, rfl⟩))
          have hb3 : Below wr.heap.size wr (wr.alloc (.cells #[.int .i32 97, .int .i32 r] 21)) := (Below.refl _ wr).alloc (Nat.le_refl _) _
          go_roundw
          case rel => exact ⟨j + 1, hjl, by go_num, (HN1.out.below hb3).mono hb3.size, HX2.out.trans (hb3.mono hs2)⟩
          case measure => simp [RowKit.intOf]; omega
        · have hj15 : 15 ≤ j := by omega
          obtain ⟨wp, rfl⟩ : ∃ wp : World, wp = wr := ⟨_, rfl⟩
          clear hn1
          have HX2 := Lib.hid hnx
          clear hnx HX
          go_wp2_with fail
          go_loopw [13] (fun i wr => ∃ k : Nat, k ≤ 12 ∧ i = .int .i64 (k : Int) ∧ (∀ m, m < 12 → wr.cell? ⟨wp.heap.size, m, none⟩ = some (.string ⟨(rawL.getD m []).toArray⟩)) ∧ Below w.heap.size w wr) (fun i _ => 12 - (RowKit.intOf i).toNat)
          case atStart =>
            refine ⟨0, by omega, rfl, ?_, HX2.out.alloc hs2 _⟩
            intro m hm
            rw [cell_of_row _ wp.heap.size m _ _ (0, 0) (heap_alloc_new wp _)]
            exact raw_cells ⟨m, hm⟩
          case round =>
            obtain ⟨m, hm, rfl, hn1, hnx⟩ := hrel
            have hs3 := hnx.size
            by_cases hml : m < 12
            · have p1 := hn1 m hml
              have g1 := raws ⟨m, hml⟩
              simp only [] at g1
              have hmI : (m : Int) < 12 := by omega
              have hsz : (⟨(rawL.getD m []).toArray⟩ : ByteArray).size ≤ 9223372036854775807 := by have := raw_size ⟨m, hml⟩; simp only [] at this; omega
              have HCk := Lib.hid (fun W => Check_is ⟨(rawL.getD m []).toArray⟩ 8 W hsz (by simpa using g1))
              have HN1 := Lib.hid hn1
              have HX3 := Lib.hid hnx
              clear hn1 hnx g1
              generalize (⟨(rawL.getD m []).toArray⟩ : ByteArray) = S at p1 hsz HCk
              go_wp2_with (first | (go_at_call 12; refine (num_same _ _).mono ?_; rintro e w' ⟨rfl, rfl⟩) | (go_at_call 13; refine (HCk.out _).mono ?_; rintro e w2 ⟨rfl, hb2⟩))
              go_roundw
              case rel => exact ⟨m + 1, hml, by go_num, fun i hi => (hb2.cell (cell_lt (HN1.out i hi))).trans (HN1.out i hi), HX3.out.trans (hb2.mono hs3)⟩
              case measure => simp [RowKit.intOf]; omega
            · have hm12 : 12 ≤ m := by omega
              clear hn1
              have HX3 := Lib.hid hnx
              clear hnx
              go_wp2_with (go_at_call 15; refine (wakes_any _).mono ?_; rintro e w1 ⟨rfl, hb1⟩)
              go_ret
              exact ⟨rfl, HX3.out.trans (hb1.mono HX3.out.size)⟩
end Go.Proofs.Ytpdelhbigmijnaa
