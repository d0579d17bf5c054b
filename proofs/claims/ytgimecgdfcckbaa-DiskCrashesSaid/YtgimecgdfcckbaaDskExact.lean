/- The whole: whatever is asked of both disks, the answers are the same. -/
import Derived.Test.YtgimecgdfcckbaaDskRise
namespace Go.Proofs.Ytgimecgdfcckbaa.Dsk
open Go.RowKit Go.Lib Go.Maps

set_option maxRecDepth 100000 in
set_option maxHeartbeats 8000000 in
/-- Where New refuses. -/
theorem exact_no (ns ts : List (List UInt8)) (xs : List Ac) (A B L : Option Addr) (n c n' c' m cl : Nat) (w : World) (hn : ns.length = n) (ht : ts.length = n') (hm : xs.length = m) (hcA : n ≤ c) (hA : Strs w w.heap.size A ns) (hB : Strs w w.heap.size B ts) (hL : ActsAt w w.heap.size L xs)
    (s1 : ∀ x ∈ ns, x.length ≤ 8000) (s2 : ∀ x ∈ ts, x.length ≤ 8000) (s3 : ∀ x ∈ xs, x.nm.length ≤ 8000 ∧ x.to.length ≤ 8000 ∧ x.s.length ≤ 8000 ∧ x.ps.length ≤ 8000) (l1 : n ≤ 8000) (l2 : n' ≤ 8000) (l3 : m ≤ 200) (hh : heavyB ns ts xs = false) (hmay : mayFrom [] ns ts = false) :
    Calls Try.prog 32 #[.agg #[.slice A n c, .slice B n' c', .slice L m cl]] w fun e w' => e = .returned (.bool true) ∧ Below w.heap.size w w' := by
  have hal := (Below.refl w.heap.size w).alloc (Nat.le_refl _) (.cells #[.slice A n c, .slice B n' c', .slice L m cl] 25)
  have HB0 := Lib.hid (Bk.new w 25 #[.slice A n c, .slice B n' c', .slice L m cl])
  have HX0 := Lib.hid hal
  have HH := Lib.hid (heavy_dk ns ts xs A B L n c n' c' m cl false _ hn ht hm (hA.on hal) (hB.on hal) (hL.on hal) (fun x hx => Nat.le_trans (s1 x hx) (by omega)) (fun x hx => Nat.le_trans (s2 x hx) (by omega)) (fun x hx => by obtain ⟨h1, h2, h3, h4⟩ := s3 x hx; exact ⟨by omega, by omega, by omega, by omega⟩) (by omega) (by omega) (by omega) hh)
  have HC1 : Hid (∀ W, Below w.heap.size w W → Calls Try.prog 37 #[.slice A n c] W fun e w' => GivesCopyS ns n W e w') := Lib.hid (fun W h => CopyStrings_is ns A n c W hn (by omega) (hA.on h))
  have HC2 : Hid (∀ W, Below w.heap.size w W → Calls Try.prog 37 #[.slice B n' c'] W fun e w' => GivesCopyS ts n' W e w') := Lib.hid (fun W h => CopyStrings_is ts B n' c' W ht (by omega) (hB.on h))
  have HNw : Hid (∀ W A1 c1 B1 c2, Strs W W.heap.size A1 ns → Strs W W.heap.size B1 ts → Calls Try.prog 11 #[.slice A1 n c1, .slice B1 n' c2] W fun e w' => e = .returned (.tuple #[.pointer none, .int .i64 1]) ∧ Below W.heap.size W w') := Lib.hid (fun W A1 c1 B1 c2 h1 h2 => by
    subst hn ht
    exact (New_is ns ts A1 B1 c1 c2 false _ W h1 h2 (fun x hx => Nat.le_trans (s1 x hx) (by omega)) (fun x hx => Nat.le_trans (s2 x hx) (by omega)) (by omega) (by omega) hmay rfl).mono fun e w' h => ⟨h.2.1 rfl, h.1⟩)
  have HMy : Hid (∀ W, Below w.heap.size w W → Calls Try.prog 38 #[.slice A n c, .slice B n' c'] W fun e w' => GivesMay false W e w') := Lib.hid (fun W h => RMay_is ns ts A B n n' c c' W false hn ht hcA (by omega) (by omega) (fun x hx => Nat.le_trans (s1 x hx) (by omega)) (fun x hx => Nat.le_trans (s2 x hx) (by omega)) (hA.on h) (hB.on h) hmay)
  have HNm := Lib.hid (fun (x : Int) W => num_is x W)
  have HWk := Lib.hid (fun W => wakes_is W)
  clear hA hB hL s1 s2 s3 hn ht hm hal hh hmay
  go_enter Try.func32, Try.ntmps32
  go_upto_region 1 with fail
  generalize w.alloc _ = wa at HB0 HX0 HH ⊢
  have c0 := HB0.out.cell 0
  have c1 := HB0.out.cell 1
  have c2 := HB0.out.cell 2
  simp at c0 c1 c2
  go_wp2_with fail
  refine HH.out.mono ?_
  rintro e w1 ⟨rfl, hb1⟩
  have HX1 := Lib.hid (HX0.out.trans (hb1.mono HX0.out.size))
  have HB1 := Lib.hid (HB0.out.below hb1)
  clear hb1 HH c0 c1 c2
  have c0 := HB1.out.cell 0
  have c1 := HB1.out.cell 1
  simp at c0 c1
  have hX1d : Below w.heap.size w w1.drew := HX1.out.drew
  have hlw : w.heap.size < w1.heap.size := HB1.out.lt
  go_wp2_with fail
  go_region_held3 (fun W' => W'.cell? ⟨w.heap.size, 0, none⟩ = some (.slice A n c) ∧ W'.cell? ⟨w.heap.size, 1, none⟩ = some (.slice B n' c'))
    (first | exact ⟨c0, c1⟩ | exact ⟨(hb3.cell (p := ⟨w.heap.size, 0, none⟩) hlw).trans c0, (hb3.cell (p := ⟨w.heap.size, 1, none⟩) hlw).trans c1⟩ | exact ⟨((hb3.trans (hb4.mono hb3.size)).cell (p := ⟨w.heap.size, 0, none⟩) hlw).trans c0, ((hb3.trans (hb4.mono hb3.size)).cell (p := ⟨w.heap.size, 1, none⟩) hlw).trans c1⟩ | exact ⟨(((hb3.trans (hb4.mono hb3.size)).trans (hb5.mono (hb3.trans (hb4.mono hb3.size)).size)).cell (p := ⟨w.heap.size, 0, none⟩) hlw).trans c0, (((hb3.trans (hb4.mono hb3.size)).trans (hb5.mono (hb3.trans (hb4.mono hb3.size)).size)).cell (p := ⟨w.heap.size, 1, none⟩) hlw).trans c1⟩)
    (first | ((go_at_call 11; refine (HNw.out _ _ _ _ _ (hs1.on hb4) hs2).mono ?_; rintro e w5 ⟨rfl, hb5⟩)) | ((go_at_call 37; refine (HC2.out _ (hX1d.trans (hb3.mono hX1d.size))).mono ?_; rintro e w4 ⟨A2, k2, rfl, hs2, hb4⟩)) | ((go_at_call 37; refine (HC1.out _ hX1d).mono ?_; rintro e w3 ⟨A1, k1, rfl, hs1, hb3⟩)))
  have h15 := hX1d.trans (hb3.mono hX1d.size)
  have h25 := h15.trans (hb4.mono h15.size)
  have HX5 := Lib.hid (h25.trans (hb5.mono h25.size))
  have h35 : Below w1.heap.size w1.drew w5 := (hb3.trans (hb4.mono hb3.size)).trans (hb5.mono (hb3.trans (hb4.mono hb3.size)).size)
  have HB5 := Lib.hid (HB1.out.drew.below h35)
  clear h15 h25 h35 hb3 hb4 hb5 hs1 hs2 c0 c1 hX1d hlw HC1 HC2 HNw
  have c0 := HB5.out.cell 0
  have c1 := HB5.out.cell 1
  simp at c0 c1
  go_wp2_with fail
  refine (HMy.out _ HX5.out).mono ?_
  rintro e w6 ⟨rfl, hb6⟩
  have HX6 := Lib.hid (HX5.out.trans (hb6.mono HX5.out.size))
  clear hb6 HMy
  go_wp2_with (go_at_call 12; refine (HNm.out _ _).mono ?_; rintro e w' ⟨rfl, rfl⟩)
  refine (HWk.out _).mono ?_
  rintro e w7 ⟨rfl, hb7⟩
  have HX7 := Lib.hid (HX6.out.trans (hb7.mono HX6.out.size))
  clear hb7 HWk
  go_wp2_with fail
  go_ret
  exact ⟨rfl, HX7.out⟩
end Go.Proofs.Ytgimecgdfcckbaa.Dsk
