/- NameDollar: what begins with $ is matched by no filter that begins with a sign that stands for any, and by those that name it; what is no filter, no name, no shared one. -/
import Derived.Test.YtpmcfnancbbgoaaNameWord
import Derived.Test.YtpmcfnancbbgoaaNameShare
import Derived.Test.YtpmcfnancbbgoaaNameLaw
namespace Go.Proofs.Ytpmcfnancbbgoaa
open Go.RowKit Go.Lib Txt Nam

def dollars : List (List UInt8) := [[36, 97], [36, 97, 47, 98], [36, 83, 89, 83, 47, 120, 47, 121]]
theorem dollar_facts : ∀ t ∈ dollars, matchB [35] t = false ∧ matchB [43] t = false ∧ matchB [43, 47, 98] t = false ∧ matchB [43, 47, 35] t = false ∧ matchB t t = true ∧ matchB (t ++ [47, 35]) t = true ∧ t.length ≤ 100 := by decide +kernel
def bads : List (List UInt8) := [[], [97, 35], [97, 47, 35, 47, 98], [43, 97], [97, 43, 47, 98], [35, 47, 97], [97, 0]]
theorem bad_facts : ∀ t ∈ bads, filterErr t = 8 ∧ topicErr t = 8 ∧ t.length ≤ 100 := by decide +kernel
def shares : List (List UInt8) := [[36, 115, 104, 97, 114, 101, 47, 47, 97], [36, 115, 104, 97, 114, 101, 47, 103], [36, 115, 104, 97, 114, 101, 47, 103, 47], [36, 115, 104, 97, 114, 101, 47, 43, 47, 97], [36, 115, 104, 97, 114, 101, 47, 103, 47, 97, 35]]
theorem share_facts : ∀ t ∈ shares, (shareOf t).is = false ∧ (shareOf t).group = [] ∧ (shareOf t).filter = [] ∧ (shareOf t).err = 8 ∧ t.length ≤ 100 := by decide +kernel
theorem getD_mem {ls : List (List UInt8)} {k : Nat} (h : k < ls.length) : ls.getD k [] ∈ ls := by
  rw [List.getD_eq_getElem?_getD, List.getElem?_eq_getElem h]; exact List.getElem_mem h
/-- One cell that stays. -/
@[irreducible] def OneAt (w : World) (p : Addr) (x : Value) (W : World) : Prop := W.cell? p = some x ∧ Below w.heap.size w W ∧ p.block < w.heap.size
section
variable {w W W' : World} {p : Addr} {x : Value}
theorem OneAt.mk (h : W.cell? p = some x ∧ Below w.heap.size w W ∧ p.block < w.heap.size) : OneAt w p x W := by unfold OneAt; exact h
theorem OneAt.out (h : OneAt w p x W) : W.cell? p = some x ∧ Below w.heap.size w W ∧ p.block < w.heap.size := by unfold OneAt at h; exact h
theorem OneAt.below (h : OneAt w p x W) (hb : Below W.heap.size W W') : OneAt w p x W' := by
  obtain ⟨h1, h2, h3⟩ := h.out
  have hb' := hb.mono h2.size
  exact .mk ⟨(hb'.cell h3).trans h1, h2.trans hb', h3⟩
theorem OneAt.drewN (h : OneAt w p x W) (n : Nat) : OneAt w p x (W.drewN n) := h.below (below_drewN (Below.refl _ _) n)
end

set_option maxRecDepth 100000 in
set_option maxHeartbeats 8000000 in
theorem NameDollar_any (A : Option Addr) (n c : Nat) (w : World) :
    Calls Try.prog 6 #[.slice A n c] w fun e w' => e = .returned (.bool true) ∧ Below w.heap.size w w' := by
  have L1 := Lib.hid (fun W => lit_strs W #[.string ⟨#[36, 97]⟩, .string ⟨#[36, 97, 47, 98]⟩, .string ⟨#[36, 83, 89, 83, 47, 120, 47, 121]⟩] dollars 9 rfl)
  have L2 := Lib.hid (fun W => lit_strs W #[.string ⟨#[]⟩, .string ⟨#[97, 35]⟩, .string ⟨#[97, 47, 35, 47, 98]⟩, .string ⟨#[43, 97]⟩, .string ⟨#[97, 43, 47, 98]⟩, .string ⟨#[35, 47, 97]⟩, .string ⟨#[97, 0]⟩] bads 9 rfl)
  have L3 := Lib.hid (fun W => lit_strs W #[.string ⟨#[36, 115, 104, 97, 114, 101, 47, 47, 97]⟩, .string ⟨#[36, 115, 104, 97, 114, 101, 47, 103]⟩, .string ⟨#[36, 115, 104, 97, 114, 101, 47, 103, 47]⟩, .string ⟨#[36, 115, 104, 97, 114, 101, 47, 43, 47, 97]⟩, .string ⟨#[36, 115, 104, 97, 114, 101, 47, 103, 47, 97, 35]⟩] shares 9 rfl)
  go_enter Try.func6, Try.ntmps6
  go_wp2_with fail
  have HN := Lib.hid (L1.out w)
  have HB := Lib.hid ((Below.refl w.heap.size w).alloc (Nat.le_refl _) (.cells #[.string ⟨#[36, 97]⟩, .string ⟨#[36, 97, 47, 98]⟩, .string ⟨#[36, 83, 89, 83, 47, 120, 47, 121]⟩] 9))
  have HZ : Hid ((w.alloc (.cells #[.string ⟨#[36, 97]⟩, .string ⟨#[36, 97, 47, 98]⟩, .string ⟨#[36, 83, 89, 83, 47, 120, 47, 121]⟩] 9)).heap.size = w.heap.size + 1) := Lib.hid (by simp)
  generalize w.alloc (.cells #[.string ⟨#[36, 97]⟩, .string ⟨#[36, 97, 47, 98]⟩, .string ⟨#[36, 83, 89, 83, 47, 120, 47, 121]⟩] 9) = w0 at HN HB HZ ⊢
  rw [← HZ.out] at HN
  generalize (some ⟨w.heap.size, 0, none⟩ : Option Addr) = P at HN ⊢
  clear HZ L1
  go_loopw [4] (fun i wr => ∃ k : Nat, k ≤ 3 ∧ i = .int .i64 (k : Int) ∧ Below w0.heap.size w0 wr) (fun i _ => 3 - (RowKit.intOf i).toNat)
  case atStart => exact ⟨0, by omega, rfl, Below.refl _ _⟩
  case round =>
    obtain ⟨k, hk, rfl, hbw⟩ := hrel
    have HW := Lib.hid hbw
    clear hbw
    by_cases hlt : k < 3
    · have hkl : k < dollars.length := hlt
      obtain ⟨a, rfl, hab, hc⟩ := (HN.out.below HW.out).some_ (by decide)
      have hx := hc k hkl
      have hF := dollar_facts _ (getD_mem hkl)
      generalize dollars.getD k [] = x at hx hF
      obtain ⟨f1, f2, f3, f4, f5, f6, f7⟩ := hF
      have happ : str x ++ ⟨#[47, 35]⟩ = str (x ++ [47, 35]) := by apply ByteArray.ext; simp [str]
      have hsz : (str x).size ≤ 100 := by rw [str_size]; exact f7
      have M1 := Lib.hid (fun W => Match_is ⟨#[35]⟩ (str x) false W (by decide) (by omega) (by rw [str_data]; exact f1))
      have M2 := Lib.hid (fun W => Match_is ⟨#[43]⟩ (str x) false W (by decide) (by omega) (by rw [str_data]; exact f2))
      have M3 := Lib.hid (fun W => Match_is ⟨#[43, 47, 98]⟩ (str x) false W (by decide) (by omega) (by rw [str_data]; exact f3))
      have M4 := Lib.hid (fun W => Match_is ⟨#[43, 47, 35]⟩ (str x) false W (by decide) (by omega) (by rw [str_data]; exact f4))
      have M5 := Lib.hid (fun W => Match_is (str x) (str x) true W (by omega) (by omega) (by rw [str_data]; exact f5))
      have M6 := Lib.hid (fun W => Match_is (str x ++ ⟨#[47, 35]⟩) (str x) true W (by rw [happ, str_size, List.length_append]; simp; omega) (by omega) (by rw [happ, str_data, str_data]; exact f6))
      have hkI : (k : Int) < 3 := by omega
      have hkb : (a.add k).block < w0.heap.size := by rw [add_block]; exact hab
      clear hc f1 f2 f3 f4 f5 f6 f7 happ
      generalize str x = sx at hx hsz M1 M2 M3 M4 M5 M6
      have ST := Lib.hid (OneAt.mk ⟨hx, HW.out, hkb⟩)
      go_upto_region 5 with fail
      have st0 := ST.out
      haveI : Nonempty (In (OneAt w0 (a.add k) (.string sx))) := ⟨⟨_, st0⟩⟩
      have k0 := fun u : In (OneAt w0 (a.add k) (.string sx)) => u.h.out.1
      clear ST hx
      refine region_in (S := OneAt w0 (a.add k) (.string sx)) (by kernel_rfl) (by kernel_rfl) (st0.drewN 1) ?_
      iterate 5 (go_big_quiet_step (first | (go_at_call 20; exact in_call ((M1.out _).mono fun _ _ h => ⟨h.1, OneAt.below (In.h _) h.2⟩))))
      iterate 6 (go_big_quiet_step (first | (go_at_call 20; exact in_call ((M2.out _).mono fun _ _ h => ⟨h.1, OneAt.below (In.h _) h.2⟩))))
      iterate 7 (go_big_quiet_step (first | (go_at_call 20; exact in_call ((M3.out _).mono fun _ _ h => ⟨h.1, OneAt.below (In.h _) h.2⟩))))
      iterate 7 (go_big_quiet_step (first | (go_at_call 20; exact in_call ((M4.out _).mono fun _ _ h => ⟨h.1, OneAt.below (In.h _) h.2⟩))))
      iterate 11 (go_big_quiet_step (first | (go_at_call 20; exact in_call ((M5.out _).mono fun _ _ h => ⟨h.1, OneAt.below (In.h _) h.2⟩))))
      repeat (go_big_quiet_step (first | (go_at_call 20; exact in_call ((M6.out _).mono fun _ _ h => ⟨h.1, OneAt.below (In.h _) h.2⟩))))
      refine wpQuiet_nil ?_
      rintro _ ⟨⟨w7, st7⟩, rfl⟩
      have H7 := Lib.hid st7.out.2.1
      clear this st0 st7 k0 M1 M2 M3 M4 M5 M6
      go_wp2_with fail
      go_roundw
      case rel => exact ⟨k + 1, hlt, by go_num, H7.out⟩
      case measure => simp [RowKit.intOf]; omega
    · have hkI : ¬ ((k : Int) < 3) := by omega
      have HBw := Lib.hid (HB.out.trans (HW.out.mono HB.out.size))
      clear HN HB HW
      go_wp2_with fail
      have HN := Lib.hid (L2.out wr)
      have HB1 := Lib.hid (HBw.out.alloc HBw.out.size (.cells #[.string ⟨#[]⟩, .string ⟨#[97, 35]⟩, .string ⟨#[97, 47, 35, 47, 98]⟩, .string ⟨#[43, 97]⟩, .string ⟨#[97, 43, 47, 98]⟩, .string ⟨#[35, 47, 97]⟩, .string ⟨#[97, 0]⟩] 9))
      have HZ : Hid ((wr.alloc (.cells #[.string ⟨#[]⟩, .string ⟨#[97, 35]⟩, .string ⟨#[97, 47, 35, 47, 98]⟩, .string ⟨#[43, 97]⟩, .string ⟨#[97, 43, 47, 98]⟩, .string ⟨#[35, 47, 97]⟩, .string ⟨#[97, 0]⟩] 9)).heap.size = wr.heap.size + 1) := Lib.hid (by simp)
      generalize wr.alloc (.cells #[.string ⟨#[]⟩, .string ⟨#[97, 35]⟩, .string ⟨#[97, 47, 35, 47, 98]⟩, .string ⟨#[43, 97]⟩, .string ⟨#[97, 43, 47, 98]⟩, .string ⟨#[35, 47, 97]⟩, .string ⟨#[97, 0]⟩] 9) = w1 at HN HB1 HZ ⊢
      rw [← HZ.out] at HN
      generalize (some ⟨wr.heap.size, 0, none⟩ : Option Addr) = P1 at HN ⊢
      clear HZ L2 HBw
      go_loopw [6] (fun i wr => ∃ k : Nat, k ≤ 7 ∧ i = .int .i64 (k : Int) ∧ Below w1.heap.size w1 wr) (fun i _ => 7 - (RowKit.intOf i).toNat)
      case atStart => exact ⟨0, by omega, rfl, Below.refl _ _⟩
      case round =>
        obtain ⟨k, hk, rfl, hbw⟩ := hrel
        have HW := Lib.hid hbw
        have hsz := hbw.size
        clear hbw
        by_cases hlt : k < 7
        · have hkl : k < bads.length := hlt
          obtain ⟨a, rfl, hab, hc⟩ := (HN.out.below HW.out).some_ (by decide)
          have hx := hc k hkl
          have hF := bad_facts _ (getD_mem hkl)
          generalize bads.getD k [] = x at hx hF
          obtain ⟨f1, f2, f7⟩ := hF
          have hsx : (str x).size ≤ 100 := by rw [str_size]; exact f7
          have M1 := Lib.hid (fun W => Filter_is (str x) 8 W (by omega) (by rw [str_data]; exact f1))
          have M2 := Lib.hid (fun W => Topic_is (str x) 8 W (by omega) (by rw [str_data]; exact f2))
          have hkI : (k : Int) < 7 := by omega
          have hkb : (a.add k).block < w1.heap.size := by rw [add_block]; exact hab
          clear hc f1 f2 f7
          generalize str x = sx at hx hsx M1 M2
          go_wp2_with fail
          refine (M1.out _).mono ?_
          rintro e w2 ⟨rfl, hb2⟩
          have hx2 : w2.cell? (a.add k) = some (.string sx) := by rw [hb2.cell (Nat.lt_of_lt_of_le hkb hsz)]; exact hx
          have HW2 := Lib.hid (HW.out.trans (hb2.mono hsz))
          clear hx hb2 M1
          go_wp2_with (first | (go_at_call 11; refine (num_is _ _).mono ?_; rintro e w' ⟨rfl, rfl⟩) | (go_at_call 12; refine (M2.out _).mono ?_; rintro e w3 ⟨rfl, hb3⟩))
          go_roundw
          case rel => exact ⟨k + 1, hlt, by go_num, HW2.out.trans (hb3.mono HW2.out.size)⟩
          case measure => simp [RowKit.intOf]; omega
        · have hkI : ¬ ((k : Int) < 7) := by omega
          have HBw := Lib.hid (HB1.out.trans (HW.out.mono HB1.out.size))
          clear HN HB1 HW hsz
          go_wp2_with fail
          have HN := Lib.hid (L3.out wr)
          have HB1 := Lib.hid (HBw.out.alloc HBw.out.size (.cells #[.string ⟨#[36, 115, 104, 97, 114, 101, 47, 47, 97]⟩, .string ⟨#[36, 115, 104, 97, 114, 101, 47, 103]⟩, .string ⟨#[36, 115, 104, 97, 114, 101, 47, 103, 47]⟩, .string ⟨#[36, 115, 104, 97, 114, 101, 47, 43, 47, 97]⟩, .string ⟨#[36, 115, 104, 97, 114, 101, 47, 103, 47, 97, 35]⟩] 9))
          have HZ : Hid ((wr.alloc (.cells #[.string ⟨#[36, 115, 104, 97, 114, 101, 47, 47, 97]⟩, .string ⟨#[36, 115, 104, 97, 114, 101, 47, 103]⟩, .string ⟨#[36, 115, 104, 97, 114, 101, 47, 103, 47]⟩, .string ⟨#[36, 115, 104, 97, 114, 101, 47, 43, 47, 97]⟩, .string ⟨#[36, 115, 104, 97, 114, 101, 47, 103, 47, 97, 35]⟩] 9)).heap.size = wr.heap.size + 1) := Lib.hid (by simp)
          generalize wr.alloc (.cells #[.string ⟨#[36, 115, 104, 97, 114, 101, 47, 47, 97]⟩, .string ⟨#[36, 115, 104, 97, 114, 101, 47, 103]⟩, .string ⟨#[36, 115, 104, 97, 114, 101, 47, 103, 47]⟩, .string ⟨#[36, 115, 104, 97, 114, 101, 47, 43, 47, 97]⟩, .string ⟨#[36, 115, 104, 97, 114, 101, 47, 103, 47, 97, 35]⟩] 9) = w2 at HN HB1 HZ ⊢
          rw [← HZ.out] at HN
          generalize (some ⟨wr.heap.size, 0, none⟩ : Option Addr) = P2 at HN ⊢
          clear HZ L3 HBw
          go_loopw [8] (fun i wr => ∃ k : Nat, k ≤ 5 ∧ i = .int .i64 (k : Int) ∧ Below w2.heap.size w2 wr) (fun i _ => 5 - (RowKit.intOf i).toNat)
          case atStart => exact ⟨0, by omega, rfl, Below.refl _ _⟩
          case round =>
            obtain ⟨k, hk, rfl, hbw⟩ := hrel
            have HW := Lib.hid hbw
            have hsz := hbw.size
            clear hbw
            by_cases hlt : k < 5
            · have hkl : k < shares.length := hlt
              obtain ⟨a, rfl, hab, hc⟩ := (HN.out.below HW.out).some_ (by decide)
              have hx := hc k hkl
              have hF := share_facts _ (getD_mem hkl)
              generalize shares.getD k [] = x at hx hF
              obtain ⟨f1, f2, f3, f4, f7⟩ := hF
              have hsx : (str x).size ≤ 100 := by rw [str_size]; exact f7
              have hv : shV (shareOf x) = .tuple #[.bool false, .string (str []), .string (str []), .int .i64 8] := by unfold shV; rw [f1, f2, f3, f4]
              have M1 := Lib.hid (fun W => Share_is (str x) (shareOf x) W (by omega) (by rw [str_data]))
              rw [hv] at M1
              have hkI : (k : Int) < 5 := by omega
              clear hc f1 f2 f3 f4 f7 hv
              generalize str x = sx at hx hsx M1
              generalize str [] = se at M1
              go_wp2_with fail
              refine (M1.out _).mono ?_
              rintro e w3 ⟨rfl, hb3⟩
              have HW2 := Lib.hid (HW.out.trans (hb3.mono hsz))
              clear hx hb3 M1
              go_wp2_with (go_at_call 11; refine (num_is _ _).mono ?_; rintro e w' ⟨rfl, rfl⟩)
              go_roundw
              case rel => exact ⟨k + 1, hlt, by go_num, HW2.out⟩
              case measure => simp [RowKit.intOf]; omega
            · have hkI : ¬ ((k : Int) < 5) := by omega
              have HBw := Lib.hid (HB1.out.trans (HW.out.mono HB1.out.size))
              have hn0 : (0 : Int) ≤ (n : Int) := by omega
              clear HN HB1 HW hsz
              go_wp2_with (go_at_call 19; refine (wakes_is _).mono ?_; rintro e w9 ⟨rfl, hb9⟩)
              go_ret
              exact ⟨rfl, HBw.out.trans (hb9.mono HBw.out.size)⟩
end Go.Proofs.Ytpmcfnancbbgoaa
