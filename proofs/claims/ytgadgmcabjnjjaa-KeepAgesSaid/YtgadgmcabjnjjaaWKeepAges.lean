/- For every list of asks: by age alone just those closed segments go whose last record is too old, and what stands ahead of a younger one; an empty one is as old as any. No condition. -/
import Derived.SizedLaws
import Derived.Test.YtgadgmcabjnjjaaW11
/- KeepAges, by its walk: by age alone just those go whose last record is too old, and what stands ahead of a younger one. -/
namespace Go.Proofs.Ytgadgmcabjnjjaa.Kpd
open Go.RowKit Go.Lib Rcd

theorem bare_one {W : World} {g : Nat} {o t : Int} (h : Blk W g #[.int .i64 o, .int .i64 t, .string ⟨#[]⟩, .string ⟨#[]⟩, .int .i64 1, .bool false]) : RecsAt W (g + 1) (some ⟨g, 0, none⟩) [bare o t] := by
  refine .inr ⟨g, 0, rfl, Nat.lt_succ_self _, fun j hj => ?_⟩
  obtain rfl : j = 0 := by simpa using hj
  exact ⟨h.cell 0, h.cell 1, h.cell 2, h.cell 3, h.cell 4, h.cell 5⟩
theorem bare_two {W : World} {g : Nat} {o t o' t' : Int} (h : Blk W g #[.int .i64 o, .int .i64 t, .string ⟨#[]⟩, .string ⟨#[]⟩, .int .i64 1, .bool false, .int .i64 o', .int .i64 t', .string ⟨#[]⟩, .string ⟨#[]⟩, .int .i64 1, .bool false]) : RecsAt W (g + 1) (some ⟨g, 0, none⟩) [bare o t, bare o' t'] := by
  refine .inr ⟨g, 0, rfl, Nat.lt_succ_self _, fun j hj => ?_⟩
  match j, hj with
  | 0, _ => exact ⟨h.cell 0, h.cell 1, h.cell 2, h.cell 3, h.cell 4, h.cell 5⟩
  | 1, _ => exact ⟨h.cell 6, h.cell 7, h.cell 8, h.cell 9, h.cell 10, h.cell 11⟩
/-- The segments that are asked for. -/
def ages : List Sp := [⟨0, []⟩, ⟨0, [bare 0 5]⟩, ⟨1, []⟩, ⟨1, [bare 1 40, bare 2 50]⟩, ⟨3, [bare 3 50]⟩]
theorem ages_row : rowB ages = true := by decide +kernel
theorem ages_at {W : World} {q a b c : Nat} (h : Blk W q #[.int .i64 0, .slice none 0 0, .int .i64 0, .slice (some ⟨a, 0, none⟩) 1 1, .int .i64 1, .slice none 0 0, .int .i64 1, .slice (some ⟨b, 0, none⟩) 2 2, .int .i64 3, .slice (some ⟨c, 0, none⟩) 1 1])
    (ha : RecsAt W W.heap.size (some ⟨a, 0, none⟩) [bare 0 5]) (hb : RecsAt W W.heap.size (some ⟨b, 0, none⟩) [bare 1 40, bare 2 50]) (hc : RecsAt W W.heap.size (some ⟨c, 0, none⟩) [bare 3 50]) : SegsAt W W.heap.size (some ⟨q, 0, none⟩) ages := by
  refine .inr ⟨q, 0, rfl, h.lt, fun j hj => ?_⟩
  match j, hj with
  | 0, _ => exact ⟨none, 0, h.cell 0, h.cell 1, .inl rfl, Nat.le_refl _, Nat.le_of_ble_eq_true rfl⟩
  | 1, _ => exact ⟨_, 1, h.cell 2, h.cell 3, ha, Nat.le_of_ble_eq_true rfl, Nat.le_of_ble_eq_true rfl⟩
  | 2, _ => exact ⟨none, 0, h.cell 4, h.cell 5, .inl rfl, Nat.le_refl _, Nat.le_of_ble_eq_true rfl⟩
  | 3, _ => exact ⟨_, 2, h.cell 6, h.cell 7, hb, Nat.le_of_ble_eq_true rfl, Nat.le_of_ble_eq_true rfl⟩
  | 4, _ => exact ⟨_, 1, h.cell 8, h.cell 9, hc, Nat.le_of_ble_eq_true rfl, Nat.le_of_ble_eq_true rfl⟩
/-- So many go: as a test. -/
def oldC (r : Ru) (now : Int) (l : List Sp) (m : Nat) : Bool := decide (m ≤ l.length - 1) && ((List.range m).all (fun j => goesB r now l j) && (decide (l.length - 1 ≤ m) || !goesB r now l m))
theorem old_of {r : Ru} {now : Int} {l : List Sp} {m : Nat} (h : oldC r now l m = true) : OldIs r now l m := by
  unfold oldC at h
  rw [Bool.and_eq_true, Bool.and_eq_true, decide_eq_true_iff, List.all_eq_true] at h
  refine ⟨h.1, fun j hj => h.2.1 j (List.mem_range.2 hj), fun hlt => ?_⟩
  have := h.2.2
  rw [Bool.or_eq_true, decide_eq_true_iff] at this
  rcases this with c | c
  · omega
  · simpa using c
def wantN (k : Nat) : Nat := if 60 < k then 4 else if 15 < k then 3 else 1
theorem ages_old : ∀ k : Nat, k < 80 → oldC ⟨1, -1, 10, false, 0⟩ (k : Int) ages (wantN k) = true := by decide +kernel
theorem ages_told {k : Nat} (h : k < 80) : OldT ages ⟨1, -1, 10, false, 0⟩ (k : Int) (wantN k) 0 := by
  refine .yes _ ?_ (old_of (ages_old k h))
  unfold askB
  rw [ages_row, Bool.true_and, show ruB ⟨1, -1, 10, false, 0⟩ = true by decide, Bool.true_and]
  exact decide_eq_true ⟨by omega, by omega⟩

set_option maxRecDepth 100000 in
set_option maxHeartbeats 8000000 in
theorem KeepAges_any (A : Option Addr) (n c : Nat) (w : World) : Calls Try.prog 6 #[.slice A n c] w fun e w' => e = .returned (.bool true) ∧ Below w.heap.size w w' := by
  have HR := Lib.hid (fun o t W => R_is o t ⟨#[]⟩ ⟨#[]⟩ W)
  unfold rarr at HR
  have HOL := Lib.hid (fun W q (k : Nat) (hk : k < 80) (h : SegsAt W W.heap.size (some ⟨q, 0, none⟩) ages) => Old_is ages ⟨1, -1, 10, false, 0⟩ (k : Int) 5 (some ⟨q, 0, none⟩) 5 W.heap.size (wantN k) 0 W rfl (by omega) (Nat.le_refl _) (Nat.le_refl _) h (ages_told hk))
  have HRW := Lib.hid (fun W q B (hB : B ≤ W.heap.size) (h : SegsAt W B (some ⟨q, 0, none⟩) ages) => RRow_is ages 5 (some ⟨q, 0, none⟩) 5 B true W rfl (by omega) (Nat.le_refl _) (by decide) hB h ages_row)
  unfold ruagg ruarr at HOL
  dsimp only at HOL
  have e0 : decide ((0 : Int) ≤ (n : Int)) = true := decide_eq_true (by omega)
  go_enter Try.func6, Try.ntmps6
  go_wp2_with fail
  go_loopw [3] (fun i wr => ∃ k : Nat, k ≤ 80 ∧ i = .int .i64 (k : Int) ∧ Below w.heap.size w wr) (fun i _ => 80 - (RowKit.intOf i).toNat)
  case atStart => exact ⟨0, Nat.zero_le _, rfl, Below.refl _ _⟩
  case round =>
    obtain ⟨k, hk, rfl, hbl⟩ := hrel
    have HB := Lib.hid hbl
    clear hbl
    by_cases hlt : k < 80
    · have e1 : (k : Int) < 80 := by omega
      go_wp2_with fail
      refine (HR.out 0 5 wr).mono ?_
      rintro e w1 ⟨rfl, hb1⟩
      obtain ⟨a, ha⟩ : ∃ a, w1.heap.size = a := ⟨_, rfl⟩
      obtain ⟨w2, hw2⟩ : ∃ w2, w1.alloc (.cells #[.int .i64 0, .int .i64 5, .string ⟨#[]⟩, .string ⟨#[]⟩, .int .i64 1, .bool false] 51) = w2 := ⟨_, rfl⟩
      have hka := Blk.new w1 51 #[.int .i64 0, .int .i64 5, .string ⟨#[]⟩, .string ⟨#[]⟩, .int .i64 1, .bool false]
      have hbla := (Below.refl w1.heap.size w1).alloc (Nat.le_refl _) (.cells #[.int .i64 0, .int .i64 5, .string ⟨#[]⟩, .string ⟨#[]⟩, .int .i64 1, .bool false] 51)
      rw [hw2] at hka hbla
      rw [ha] at hka
      have RA2 := Lib.hid ((bare_one hka).mono hka.lt)
      have B2 := Lib.hid (bel_step (bel_step HB.out hb1) hbla)
      have HA := Lib.hid ha
      have HW2 := Lib.hid hw2
      clear hka hbla ha hw2 hb1 HB
      go_wp2_with fail
      rw [HW2.out, HA.out]
      clear HW2 HA
      refine (HR.out 1 40 w2).mono ?_
      rintro e w3 ⟨rfl, hb3⟩
      have RA3 := Lib.hid (RA2.out.on hb3)
      have B3 := Lib.hid (bel_step B2.out hb3)
      clear RA2 B2 hb3
      go_wp2_with fail
      refine (HR.out 2 50 w3).mono ?_
      rintro e w4 ⟨rfl, hb4⟩
      obtain ⟨b, hb⟩ : ∃ b, w4.heap.size = b := ⟨_, rfl⟩
      obtain ⟨w5, hw5⟩ : ∃ w5, w4.alloc (.cells #[.int .i64 1, .int .i64 40, .string ⟨#[]⟩, .string ⟨#[]⟩, .int .i64 1, .bool false, .int .i64 2, .int .i64 50, .string ⟨#[]⟩, .string ⟨#[]⟩, .int .i64 1, .bool false] 51) = w5 := ⟨_, rfl⟩
      have hkb := Blk.new w4 51 #[.int .i64 1, .int .i64 40, .string ⟨#[]⟩, .string ⟨#[]⟩, .int .i64 1, .bool false, .int .i64 2, .int .i64 50, .string ⟨#[]⟩, .string ⟨#[]⟩, .int .i64 1, .bool false]
      have hblb := (Below.refl w4.heap.size w4).alloc (Nat.le_refl _) (.cells #[.int .i64 1, .int .i64 40, .string ⟨#[]⟩, .string ⟨#[]⟩, .int .i64 1, .bool false, .int .i64 2, .int .i64 50, .string ⟨#[]⟩, .string ⟨#[]⟩, .int .i64 1, .bool false] 51)
      rw [hw5] at hkb hblb
      rw [hb] at hkb
      have RA5 := Lib.hid ((RA3.out.on hb4).on hblb)
      have RB5 := Lib.hid ((bare_two hkb).mono hkb.lt)
      have B5 := Lib.hid (bel_step (bel_step B3.out hb4) hblb)
      have HA := Lib.hid hb
      have HW2 := Lib.hid hw5
      clear hkb hblb hb hw5 hb4 RA3 B3
      go_wp2_with fail
      rw [HW2.out, HA.out]
      clear HW2 HA
      refine (HR.out 3 50 w5).mono ?_
      rintro e w6 ⟨rfl, hb6⟩
      obtain ⟨d, hd⟩ : ∃ d, w6.heap.size = d := ⟨_, rfl⟩
      obtain ⟨w7, hw7⟩ : ∃ w7, w6.alloc (.cells #[.int .i64 3, .int .i64 50, .string ⟨#[]⟩, .string ⟨#[]⟩, .int .i64 1, .bool false] 51) = w7 := ⟨_, rfl⟩
      have hkd := Blk.new w6 51 #[.int .i64 3, .int .i64 50, .string ⟨#[]⟩, .string ⟨#[]⟩, .int .i64 1, .bool false]
      have hbld := (Below.refl w6.heap.size w6).alloc (Nat.le_refl _) (.cells #[.int .i64 3, .int .i64 50, .string ⟨#[]⟩, .string ⟨#[]⟩, .int .i64 1, .bool false] 51)
      rw [hw7] at hkd hbld
      rw [hd] at hkd
      obtain ⟨q, hq⟩ : ∃ q, w7.heap.size = q := ⟨_, rfl⟩
      obtain ⟨w8, hw8⟩ : ∃ w8, w7.alloc (.cells #[.int .i64 0, .slice none 0 0, .int .i64 0, .slice (some ⟨a, 0, none⟩) 1 1, .int .i64 1, .slice none 0 0, .int .i64 1, .slice (some ⟨b, 0, none⟩) 2 2, .int .i64 3, .slice (some ⟨d, 0, none⟩) 1 1] 48) = w8 := ⟨_, rfl⟩
      have hkq := Blk.new w7 48 #[.int .i64 0, .slice none 0 0, .int .i64 0, .slice (some ⟨a, 0, none⟩) 1 1, .int .i64 1, .slice none 0 0, .int .i64 1, .slice (some ⟨b, 0, none⟩) 2 2, .int .i64 3, .slice (some ⟨d, 0, none⟩) 1 1]
      have hblq := (Below.refl w7.heap.size w7).alloc (Nat.le_refl _) (.cells #[.int .i64 0, .slice none 0 0, .int .i64 0, .slice (some ⟨a, 0, none⟩) 1 1, .int .i64 1, .slice none 0 0, .int .i64 1, .slice (some ⟨b, 0, none⟩) 2 2, .int .i64 3, .slice (some ⟨d, 0, none⟩) 1 1] 48)
      rw [hw8] at hkq hblq
      rw [hq] at hkq
      have RA8 := ((RA5.out.on hb6).on hbld).on hblq
      have RB8 := ((RB5.out.on hb6).on hbld).on hblq
      have RD8 := ((bare_one hkd).mono hkd.lt).on hblq
      have B8 := Lib.hid (bel_step (bel_step (bel_step B5.out hb6) hbld) hblq)
      have S8 := Lib.hid (ages_at hkq RA8 RB8 RD8)
      have HD := Lib.hid hd
      have HW7 := Lib.hid hw7
      have HQ := Lib.hid (show d + 1 = q by rw [← hq, ← hw7, ← hd]; simp)
      have HW8 := Lib.hid hw8
      clear hkd hbld hd hw7 hb6 RA5 RB5 B5 RA8 RB8 RD8 hkq hblq hq hw8
      go_wp2_with fail
      rw [HW7.out, HD.out, HQ.out, HW8.out]
      clear HW7 HD HQ HW8
      refine (HOL.out w8 q k hlt S8.out).mono ?_
      rintro e w9 ⟨rfl, hb9⟩
      have B9 := Lib.hid (bel_step B8.out hb9)
      have HRX := Lib.hid (HRW.out w9 q w8.heap.size hb9.size (S8.out.below hb9))
      clear B8 S8 hb9
      have hwn : wantN k = if 60 < k then 4 else if 15 < k then 3 else 1 := rfl
      by_cases h60 : 60 < k
      · have f1 : decide ((15 : Int) < (k : Int)) = true := decide_eq_true (by omega)
        have f2 : decide (15 < k) = true := decide_eq_true (by omega)
        have f3 : decide ((60 : Int) < (k : Int)) = true := decide_eq_true (by omega)
        have f4 : decide (60 < k) = true := decide_eq_true h60
        rw [hwn, if_pos h60]
        clear hwn
        go_wp2_with (first | (go_at_call 13; refine (num_is _ _).mono ?_; rintro e w' ⟨rfl, rfl⟩) | (go_at_call 15; refine HRX.out.mono ?_; rintro e w10 ⟨rfl, hb10⟩))
        have B10 := Lib.hid (bel_step B9.out hb10)
        clear B9 hb10
        go_roundw
        case rel => exact ⟨k + 1, hlt, by go_num, B10.out⟩
        case measure => simp [RowKit.intOf]; omega
      · have f3 : decide ((60 : Int) < (k : Int)) = false := decide_eq_false (by omega)
        have f4 : decide (60 < k) = false := decide_eq_false h60
        by_cases h15 : 15 < k
        · have f1 : decide ((15 : Int) < (k : Int)) = true := decide_eq_true (by omega)
          have f2 : decide (15 < k) = true := decide_eq_true (by omega)
          rw [hwn, if_neg h60, if_pos h15]
          clear hwn
          go_wp2_with (first | (go_at_call 13; refine (num_is _ _).mono ?_; rintro e w' ⟨rfl, rfl⟩) | (go_at_call 15; refine HRX.out.mono ?_; rintro e w10 ⟨rfl, hb10⟩))
          have B10 := Lib.hid (bel_step B9.out hb10)
          clear B9 hb10
          go_roundw
          case rel => exact ⟨k + 1, hlt, by go_num, B10.out⟩
          case measure => simp [RowKit.intOf]; omega
        · have f1 : decide ((15 : Int) < (k : Int)) = false := decide_eq_false (by omega)
          have f2 : decide (15 < k) = false := decide_eq_false (by omega)
          rw [hwn, if_neg h60, if_neg h15]
          clear hwn
          go_wp2_with (first | (go_at_call 13; refine (num_is _ _).mono ?_; rintro e w' ⟨rfl, rfl⟩) | (go_at_call 15; refine HRX.out.mono ?_; rintro e w10 ⟨rfl, hb10⟩))
          have B10 := Lib.hid (bel_step B9.out hb10)
          clear B9 hb10
          go_roundw
          case rel => exact ⟨k + 1, hlt, by go_num, B10.out⟩
          case measure => simp [RowKit.intOf]; omega
    · obtain rfl : k = 80 := by omega
      have HWK := Lib.hid (wakes_any wr)
      go_wp2_with fail
      refine HWK.out.mono ?_
      rintro e w1 ⟨rfl, hb1⟩
      have B1 := Lib.hid (bel_step HB.out hb1)
      clear hb1 HB HWK
      go_wp2_with fail
      go_ret
      exact ⟨rfl, B1.out⟩
end Go.Proofs.Ytgadgmcabjnjjaa.Kpd
/- For every list of asks: by age alone just those closed segments go whose last record is too old, and what stands ahead of a younger one; an empty one is as old as any. No condition. -/
namespace Go.Proofs.Ytgadgmcabjnjjaa.keepAges
open Go.ChangeShapes Go.WideShapes Go.ChangeAt Go.RowKit Kpd

set_option maxRecDepth 100000 in
theorem lifted (os : Os) (started : os.Started) (H : Type) (enc : TypeId × Value → H) :
    ReturnsInHanded {} Try.checked os 6 .any (Rows.keepAgesSpec.pre6 enc Try.prog Try.f6 Rows.keepAgesRow.domain false) (Rows.keepAgesSpec.post enc Try.prog Try.f6 false true false false) := by
  refine returnsInHanded_of_change_sized (C := Try.checked) ownKnob_none started (by kernel_rfl) Try.func6
    (ChangeSpec.witness6 (enc := enc) (C := Try.checked) false ⟨#[], #[.slice none 0 0], []⟩ 8 (by kernel_rfl) (by kernel_rfl) (by kernel_rfl) (by kernel_rfl)) ?_
  intro W base args ds gs before hval0 hW _ _ _
  have hval : ∀ (j : Nat) t v, Try.f6.params[j]? = some t → args[j]? = some v → Value.okWide Try.prog W .any base t v := hval0
  have hW' := hW
  obtain ⟨p, q, hA0, hV, rfl, _, _⟩ := hW
  have hA : DataW.TrodAll enc Try.prog W 0 (fun _ => true) true Try.f6.params.toList args.toList ds p := hA0
  rw [Try.params6] at hA hval
  obtain ⟨v0, d0, rfl, rfl, h0⟩ := trodAll_one hA
  obtain ⟨rfl, rfl⟩ := trodVars_none hV
  obtain ⟨a0, n0, c0, rfl⟩ := okWide_slice Try.underlying22 (hval 0 22 v0 rfl rfl)
  have lt0 : ∀ x ∈ p, x.block < W.heap.size := by obtain ⟨m, hm⟩ := h0; exact DataW.trod_lt m _ _ _ hm
  clear hA0 hval0
  refine (KeepAges_any a0 n0 c0 W).mono fun e W' ⟨he, bel⟩ => ?_
  subst he
  exact ⟨_, rfl, _, _, _, [], _, [], hW', trodAll_mk1 (shut_bool Try.underlying4 _), trodAll_mk1 (Below.trod laidOut_true (by kernel_rfl) (of_decide_eq_true (by kernel_rfl)) h0 bel lt0), rfl, bel.frame _, fun h => by cases h⟩

theorem over : Rows.keepAgesRow.holds Try.pinned (OpenSpec.ofChange Rows.keepAgesSpec) :=
  OpenClaim.holds_of_wide 6 Try.f6 rfl rfl rfl rfl rfl rfl rfl ⟨rfl, rfl, rfl, rfl, rfl⟩ rfl rfl rfl rfl rfl (by kernel_rfl) Try.func6 (by kernel_rfl)
    (of_decide_eq_true (by kernel_rfl)) (by unfold Func.isWrapper; rw [if_neg (of_decide_eq_false (by kernel_rfl))]; exact ⟨rfl, rfl⟩)
    (fun os started H enc _ => lifted os started H enc)

theorem proved : Rows.KeepAgesSaid := over
#print axioms proved
end Go.Proofs.Ytgadgmcabjnjjaa.keepAges
