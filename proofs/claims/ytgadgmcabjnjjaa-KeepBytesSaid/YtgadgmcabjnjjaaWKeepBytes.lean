/- For every list of asks: of closed segments of one record each so many stay as have no more bytes than may be; of those that are too old none. No condition. -/
import Derived.SizedLaws
import Derived.Test.YtgadgmcabjnjjaaW11
/- Ten segments of one record each: what KeepBytes asks for. No run of a program but of the contract's premises is in this file. -/
namespace Go.Proofs.Ytgadgmcabjnjjaa.Kpd
open Go.RowKit Go.Lib Rcd

def tenR (i : Nat) : Rc := ⟨(i : Int), 10 * (i : Int), [107], [98, 111, 100, 121], 1, false⟩
def tenS (i : Nat) : Sp := ⟨(i : Int), [tenR i]⟩
def tens (k : Nat) : List Sp := (List.range k).map tenS
theorem tens_len (k : Nat) : (tens k).length = k := by unfold tens; simp
theorem tens_next (k : Nat) : tens (k + 1) = tens k ++ [⟨(k : Int), [tenR k]⟩] := by unfold tens; rw [List.range_succ, List.map_append]; rfl
theorem tens_at {k i : Nat} (h : i < (tens k).length) : (tens k)[i] = tenS i := by
  unfold tens at h ⊢
  rw [List.getElem_map, List.getElem_range]
theorem tens_row : rowB (tens 10) = true := by decide +kernel
theorem ten_size (i : Nat) : (recL (tenR i)).length = 30 := by rw [rec_len]; rfl
theorem ten_may : ∀ i : Nat, i < 10 → mayB (tenR i) = true := by decide +kernel
theorem size_tens (l : List Nat) : sizeL (l.map tenS) = 30 * l.length := by
  induction l with
  | nil => rfl
  | cons i l ih =>
    rw [List.map_cons, sizeL, ih, List.length_cons]
    have : (allL (tenS i).rs).length = 30 := by
      show (allL [tenR i]).length = 30
      rw [all_cons]
      have e : allL [] = [] := rfl
      rw [e, List.append_nil, ten_size]
    omega
theorem size_rest (j : Nat) : sizeL ((closed (tens 10)).drop j) = 30 * (9 - j) := by
  have e : (closed (tens 10)).drop j = ((List.range 9).drop j).map tenS := by
    unfold closed
    rw [tens_len]
    unfold tens
    rw [← List.map_take, ← List.map_drop]
    congr 1
  rw [e, size_tens, List.length_drop, List.length_range]
theorem ten_ask {r : Ru} {now : Int} (hr : ruB r = true) (hn : 0 ≤ now ∧ now ≤ 1000) : askB (tens 10) r now = true := by
  unfold askB
  rw [tens_row, hr, Bool.true_and, Bool.true_and]
  exact decide_eq_true ⟨hn.1, by omega⟩
theorem bytes_told {n : Nat} (h : n < 11) : OldT (tens 10) ⟨1, (n : Int) * 30, -1, false, 0⟩ 0 (9 - min n 9) 0 := by
  have hr : ruB ⟨1, (n : Int) * 30, -1, false, 0⟩ = true := by
    unfold ruB
    refine decide_eq_true ?_
    dsimp only
    omega
  have hg : ∀ j, goesB ⟨1, (n : Int) * 30, -1, false, 0⟩ 0 (tens 10) j = decide (n < 9 - j) := by
    intro j
    unfold goesB muchB oldB
    rw [size_rest, decide_eq_true (show (0 : Int) ≤ (⟨1, (n : Int) * 30, -1, false, 0⟩ : Ru).by_ by dsimp only; omega), decide_eq_false (show ¬ (0 : Int) ≤ (⟨1, (n : Int) * 30, -1, false, 0⟩ : Ru).ag by show ¬ (0 : Int) ≤ -1; decide), Bool.true_and, Bool.false_and, Bool.or_false]
    exact decide_eq_decide.2 (by dsimp only; omega)
  refine .yes _ (ten_ask hr (by omega)) ⟨by rw [tens_len]; omega, fun j hj => ?_, fun hlt => ?_⟩
  · rw [hg]; exact decide_eq_true (by omega)
  · rw [hg]; exact decide_eq_false (by omega)
theorem ages_of {n : Nat} (h : n < 11) : OldT (tens 10) ⟨1, -1, 5, false, 0⟩ (10 * (n : Int)) (min n 9) 0 := by
  have hr : ruB ⟨1, -1, 5, false, 0⟩ = true := by decide
  have hg : ∀ j, j < 10 → goesB ⟨1, -1, 5, false, 0⟩ (10 * (n : Int)) (tens 10) j = decide (j < n) := by
    intro j hj
    unfold goesB muchB oldB
    rw [decide_eq_false (show ¬ (0 : Int) ≤ (⟨1, -1, 5, false, 0⟩ : Ru).by_ by decide), decide_eq_true (show (0 : Int) ≤ (⟨1, -1, 5, false, 0⟩ : Ru).ag by decide), Bool.false_and, Bool.false_or, Bool.true_and, List.getD_eq_getElem?_getD, List.getElem?_eq_getElem (by rw [tens_len]; exact hj), Option.getD_some, tens_at]
    show decide (10 * (j : Int) + 5 < 10 * (n : Int)) = _
    exact decide_eq_decide.2 (by omega)
  refine .yes _ (ten_ask hr (by omega)) ⟨by rw [tens_len]; omega, fun j hj => ?_, fun hlt => ?_⟩
  · rw [hg j (by omega)]; exact decide_eq_true (by omega)
  · rw [tens_len] at hlt
    rw [hg _ (by omega)]; exact decide_eq_false (by omega)
end Go.Proofs.Ytgadgmcabjnjjaa.Kpd
/- KeepBytes, by its walk: of closed segments of one record each so many stay as have no more bytes than may be; of those that are too old none. -/
namespace Go.Proofs.Ytgadgmcabjnjjaa.Kpd
open Go.RowKit Go.Lib Rcd

/-- A record's block stays when a row of segments grows. -/
theorem rblk_grown {W W' : World} {B n g : Nat} {v : Value} {xs : List Value} {cs : Array Value} (k : W.heap[g]? = some (.cells cs 51 (0, 0))) (hown : W.ownsRow B 48 2 v n xs) (hg : W.grownBy W' v.ownBlock) : W'.heap[g]? = some (.cells cs 51 (0, 0)) := by
  refine (hg.block g (Array.getElem?_eq_some_iff.1 k).1 (fun e => ?_)).trans k
  rcases hown.2 with ⟨rfl, _⟩ | ⟨g', cap, cur, rfl, _, hgg, _⟩
  · simp [Value.ownBlock] at e
  · simp [Value.ownBlock] at e
    subst e
    rw [k] at hgg
    injection hgg with e3
    injection e3 with _ e4
    exact seg_not_rec e4
theorem rec_box {w w1 : World} (hb : Below w.heap.size w w1) (cs : Array Value) : ∃ g W4, w1.heap.size = g ∧ w1.alloc (.cells zcells 51) = W4 ∧ Blk W4 g zcells ∧ (W4.setRow g cs).heap[g]? = some (.cells cs 51 (0, 0)) ∧ Below w.heap.size w (W4.setRow g cs) ∧ Below w1.heap.size w1 (W4.setRow g cs) := by
  have hbn := Blk.new w1 51 zcells
  have hbl : Below w.heap.size w (w1.alloc (.cells zcells 51)) := hb.alloc hb.size _
  exact ⟨_, _, rfl, rfl, hbn, setRow_heap _ _ zcells cs _ _ (heap_alloc_new w1 _), below_row hbl hb.size cs, below_row ((Below.refl _ _).alloc (Nat.le_refl _) _) (Nat.le_refl _) cs⟩
def kBytes : ByteArray := ⟨#[107]⟩
def bBytes : ByteArray := ⟨#[98, 111, 100, 121]⟩

set_option maxRecDepth 100000 in
set_option maxHeartbeats 8000000 in
theorem KeepBytes_any (A : Option Addr) (n c : Nat) (w : World) : Calls Try.prog 5 #[.slice A n c] w fun e w' => e = .returned (.bool true) ∧ Below w.heap.size w w' := by
  obtain ⟨i0, hi, hz0, hz1, hz2⟩ := info_parts info_smore
  have HR := Lib.hid (fun o t W => R_is o t ⟨#[107]⟩ ⟨#[98, 111, 100, 121]⟩ W)
  unfold rarr at HR
  have HBY := Lib.hid (fun (k : Nat) (hk : k < 10) W => show Calls Try.prog 24 #[.agg #[.int .i64 (k : Int), .int .i64 (10 * (k : Int)), .string ⟨#[107]⟩, .string ⟨#[98, 111, 100, 121]⟩, .int .i64 1, .bool false]] W (fun e w' => e = .returned (.string (str (recL (tenR k)))) ∧ Below W.heap.size W w') from RBytes_is (tenR k) _ W (ten_may k hk) rfl)
  have HSZ := Lib.hid (fun k : Nat => show (str (recL (tenR k))).size = 30 by rw [str_size]; exact ten_size k)
  have HFL := Lib.hid (fun k : Nat => show flat [tenR k] = [.int .i64 (k : Int), .int .i64 (10 * (k : Int)), .string ⟨#[107]⟩, .string ⟨#[98, 111, 100, 121]⟩, .int .i64 1, .bool false] from rfl)
  have HXO := Lib.hid (fun W B (k : Nat) (hk : k < 11) A' c' (hc : 10 ≤ c') (hB : B ≤ W.heap.size) (h : SegsAt W B A' (tens 10)) => Old_is (tens 10) ⟨1, (k : Int) * 30, -1, false, 0⟩ 0 10 A' c' B (9 - min k 9) 0 W (tens_len 10) (by omega) hc hB h (bytes_told hk))
  have HYO := Lib.hid (fun W B (k : Nat) (hk : k < 11) A' c' (hc : 10 ≤ c') (hB : B ≤ W.heap.size) (h : SegsAt W B A' (tens 10)) => Old_is (tens 10) ⟨1, -1, 5, false, 0⟩ (10 * (k : Int)) 10 A' c' B (min k 9) 0 W (tens_len 10) (by omega) hc hB h (ages_of hk))
  unfold ruagg ruarr at HXO HYO
  dsimp only at HXO HYO
  have e0 : decide ((0 : Int) ≤ (n : Int)) = true := decide_eq_true (by omega)
  go_enter Try.func5, Try.ntmps5
  go_wp2_with fail
  go_loopw [3, 4, 5] (fun v o i wr => ∃ (k : Nat) (xs : List Sx), k ≤ 10 ∧ i = .int .i64 (k : Int) ∧ o = .int .i64 (if k = 0 then 0 else 30) ∧ OwnS wr w.heap.size v (tens k) xs ∧ Below w.heap.size w wr) (fun _ _ i _ => 10 - (RowKit.intOf i).toNat)
  case atStart => exact ⟨0, [], Nat.zero_le _, rfl, rfl, .nil _ _, Below.refl _ _⟩
  case round =>
    obtain ⟨k, xs, hk, rfl, rfl, hown, hbl⟩ := hrel
    have HO := Lib.hid hown
    have HB := Lib.hid hbl
    clear hown hbl
    by_cases hlt : k < 10
    · have e1 : (k : Int) < 10 := by omega
      obtain ⟨u4, hu4⟩ : ∃ u4 : Int, (if k = 0 then 0 else 30) = u4 := ⟨_, rfl⟩
      rw [hu4]
      clear hu4
      go_wp2_with fail
      refine (HR.out (k : Int) (10 * (k : Int)) wr).mono ?_
      rintro e w1 ⟨rfl, hb1⟩
      obtain ⟨g9, W4, hg9, hW4, hbn, hbx, hbl, hbw⟩ := rec_box (bel_step HB.out hb1) #[.int .i64 (k : Int), .int .i64 (10 * (k : Int)), .string ⟨#[107]⟩, .string ⟨#[98, 111, 100, 121]⟩, .int .i64 1, .bool false]
      have HBN := Lib.hid hbn
      have HX5 := Lib.hid hbx
      have B5 := Lib.hid hbl
      have O5 := Lib.hid ((HO.out.below hb1).below hbw)
      unfold zcells at hW4
      have HW4 := Lib.hid hW4
      clear hbn hbx hbl hbw hW4 hb1 HO HB
      go_upto_region 7 with (rw [HW4.out]; refine wpList_store_whole rfl 51 (.tmp 6) (.tmp 19) rfl g9 _ rfl rfl zcells HBN.out info_rec rfl (by simp [Value.oneCell']) ?_; simp only [Act.put])
      clear HW4 HBN hg9
      generalize World.setRow _ _ _ = w5 at HX5 B5 O5 ⊢
      have hld := load_blk (show Blk w5 g9 _ from ⟨_, HX5.out⟩) rfl
      have hrw := O5.out.row
      rw [tens_len] at hrw
      have HRW := Lib.hid hrw
      have hs5 := B5.out.size
      clear hrw
      obtain ⟨g6, hg6⟩ : ∃ g6, w5.heap.size = g6 := ⟨_, rfl⟩
      have hz6 : (w5.alloc (.cells #[.int .i64 (k : Int), .int .i64 (10 * (k : Int)), .string ⟨#[107]⟩, .string ⟨#[98, 111, 100, 121]⟩, .int .i64 1, .bool false] 51)).heap.size = g6 + 1 := by rw [← hg6]; simp
      have hba := (Below.refl w5.heap.size w5).alloc (Nat.le_refl _) (.cells #[.int .i64 (k : Int), .int .i64 (10 * (k : Int)), .string ⟨#[107]⟩, .string ⟨#[98, 111, 100, 121]⟩, .int .i64 1, .bool false] 51)
      have hs6 : w.heap.size ≤ (w5.alloc (.cells #[.int .i64 (k : Int), .int .i64 (10 * (k : Int)), .string ⟨#[107]⟩, .string ⟨#[98, 111, 100, 121]⟩, .int .i64 1, .bool false] 51)).heap.size := Nat.le_trans hs5 hba.size
      have HR6 := Lib.hid (World.ownsRow_lit (base := w5.heap.size) (e := 51) (size := 6) w5 #[.int .i64 (k : Int), .int .i64 (10 * (k : Int)), .string ⟨#[107]⟩, .string ⟨#[98, 111, 100, 121]⟩, .int .i64 1, .bool false] 1 (Nat.le_refl _) (by decide) rfl)
      have HZ6 := Lib.hid hz6
      have HBA := Lib.hid hba
      have HS6 := Lib.hid hs6
      have HG6 := Lib.hid hg6
      rw [hg6] at HR6
      clear hz6 hba hs6 hg6
      go_wp2_with (first | (refine wpList_load_any (by rfl) 51 (.tmp 6) rfl g9 0 rfl _ hld ?_; simp only [Act.put]) | (at_builtin; rw [HG6.out]; refine wpList_append_own _ rfl _ _ 23 rfl w.heap.size 48 i0 (.agg #[.int .i64 0, .slice none 0 0]) 2 32 Try.underlying23 hi hz0 hz1 hz2 rfl (by decide) _ _ _ rfl ((HRW.out.alloc _).alloc _) ⟨g6 + 1, 0, none⟩ 1 1 [.int .i64 (k : Int), .slice (some ⟨g6, 0, none⟩) 1 1] rfl rfl ?c1 ?c2 ?c3 ?c4 ?c5 ?_))
      case c1 => exact fun j u h => by rw [← HZ6.out]; have := cells_new (w5.alloc (.cells #[.int .i64 (k : Int), .int .i64 (10 * (k : Int)), .string ⟨#[107]⟩, .string ⟨#[98, 111, 100, 121]⟩, .int .i64 1, .bool false] 51)) 48 [.int .i64 (k : Int), .slice (some ⟨g6, 0, none⟩) 1 1] j u h; first | rwa [add_new] at this | exact this
      case c2 => first | exact ⟨rfl, rfl⟩ | exact fun u hu => by simp at hu; rcases hu with rfl | rfl <;> rfl
      case c3 => unfold maxLen; omega
      case c4 => first | omega | (simp; omega)
      case c5 => first | omega | (simp; omega)
      intro v' w7 hown' hgrow _
      have B7 := Lib.hid ((B5.out.alloc hs5 (.cells #[.int .i64 (k : Int), .int .i64 (10 * (k : Int)), .string ⟨#[107]⟩, .string ⟨#[98, 111, 100, 121]⟩, .int .i64 1, .bool false] 51)).trans (below_alloc_grown HS6.out (HRW.out.alloc _) hgrow))
      have hO7 : OwnS w7 w.heap.size v' (tens (k + 1)) (xs ++ [⟨⟨(k : Int), [tenR k]⟩, some ⟨g6, 0, none⟩, 1⟩]) := by
        rw [tens_next]
        refine OwnS.snoc (rs := [tenR k]) O5.out hs5 HBA.out ?_ (Nat.le_of_ble_eq_true rfl) hgrow ?_
        · rw [HFL.out, HG6.out]
          exact HR6.out
        · rw [tens_len]
          exact hown'
      have O7 := Lib.hid hO7
      have HX7 := Lib.hid (rblk_grown ((Lib.alloc_old _ _ _ (by simp; have := (Array.getElem?_eq_some_iff.1 HX5.out).1; omega)).trans ((Lib.alloc_old _ _ _ (Array.getElem?_eq_some_iff.1 HX5.out).1).trans HX5.out)) ((HRW.out.alloc _).alloc _) hgrow)
      clear hO7 hown' hgrow O5 HRW HX5 HR6 HZ6 HBA HS6 HG6 hld hs5 B5
      have hld := load_blk (show Blk w7 g9 _ from ⟨_, HX7.out⟩) rfl
      obtain ⟨S, hS⟩ : ∃ S, str (recL (tenR k)) = S := ⟨_, rfl⟩
      have HBK := Lib.hid (HBY.out k hlt w7)
      have HSS := Lib.hid (HSZ.out k)
      rw [hS] at HBK HSS
      clear hS
      go_wp2_with (refine wpList_load_any (by rfl) 51 (.tmp 6) rfl g9 0 rfl _ hld ?_; simp only [Act.put])
      refine HBK.out.mono ?_
      rintro e w8 ⟨rfl, hb8⟩
      have O8 := Lib.hid (O7.out.below hb8)
      have B8 := Lib.hid (bel_step B7.out hb8)
      clear hb8 O7 B7 HX7 hld HBK
      go_wp2_with fail
      go_roundw
      case rel => exact ⟨k + 1, _, hlt, by go_num, by rw [HSS.out, if_neg (by omega)]; rfl, O8.out, B8.out⟩
      case measure => simp [RowKit.intOf]; omega
    · have hk10 : k = 10 := by omega
      have e9 : ¬ (k : Int) < 10 := by omega
      rw [if_neg (show ¬ k = 0 by omega)]
      have ho10 := HO.out
      rw [hk10] at ho10
      have HO10 := Lib.hid ho10
      clear ho10
      clear HO hk10
      obtain ⟨A', c', hv⟩ := row_slice HO10.out.row
      rw [tens_len] at hv
      subst hv
      have hrw := HO10.out.row
      rw [tens_len] at hrw
      have hcap := row_cap hrw
      have HAT := Lib.hid (SegsAt.of_own HO10.out)
      clear HO10 hrw
      have HCP := Lib.hid hcap
      clear hcap hk hlt
      go_wp2_with fail
      obtain ⟨V, hV⟩ : ∃ V, V = wr := ⟨_, rfl⟩
      rw [← hV] at HAT HB ⊢
      clear hV
      go_loopw [7] (fun i wr => ∃ k : Nat, k ≤ 11 ∧ i = .int .i64 (k : Int) ∧ Below V.heap.size V wr) (fun i _ => 11 - (RowKit.intOf i).toNat)
      case atStart => exact ⟨0, Nat.zero_le _, rfl, Below.refl _ _⟩
      case round =>
        obtain ⟨k, hk2, rfl, hbl⟩ := hrel
        have HBX := Lib.hid hbl
        clear hbl
        by_cases hlt : k < 11
        · have e1 : (k : Int) ≤ 10 := by omega
          have e2 : k ≤ 10 := by omega
          obtain ⟨m, hm⟩ : ∃ m, min k 9 = m := ⟨_, rfl⟩
          have HX := Lib.hid (fun W (hb : Below V.heap.size V W) => HXO.out W V.heap.size k hlt A' c' HCP.out hb.size (HAT.out.below hb))
          have HY := Lib.hid (fun W (hb : Below V.heap.size V W) => HYO.out W V.heap.size k hlt A' c' HCP.out hb.size (HAT.out.below hb))
          rw [hm] at HX HY
          obtain ⟨m', hm'⟩ : ∃ m', 9 - m = m' := ⟨_, rfl⟩
          rw [hm'] at HX
          have hm9 : (9 : Int) - (m : Int) = (m' : Int) := by omega
          go_wp2_with fail
          refine (HX.out _ HBX.out).mono ?_
          rintro e w2 ⟨rfl, hb2⟩
          have B2 := Lib.hid (bel_step HBX.out hb2)
          clear hb2 HBX HX
          go_wp2_with fail
          refine (HY.out _ B2.out).mono ?_
          rintro e w3 ⟨rfl, hb3⟩
          have B3 := Lib.hid (bel_step B2.out hb3)
          clear hb3 B2 HY
          by_cases h9 : k ≤ 9
          · obtain rfl : m = k := by omega
            have f1 : (m : Int) ≤ 9 := by omega
            have f2 : min (m : Int) 9 = (m : Int) := by omega
            clear hm hm'
            go_wp2_with (go_at_call 13; refine (num_is _ _).mono ?_; rintro e w' ⟨rfl, rfl⟩)
            go_roundw
            case rel => exact ⟨m + 1, by omega, by go_num, B3.out⟩
            case measure => simp [RowKit.intOf]; omega
          · obtain rfl : k = 10 := by omega
            obtain rfl : m = 9 := by omega
            obtain rfl : m' = 0 := by omega
            clear hm hm'
            go_wp2_with (go_at_call 13; refine (num_is _ _).mono ?_; rintro e w' ⟨rfl, rfl⟩)
            go_roundw
            case rel => exact ⟨11, by omega, by go_num, B3.out⟩
            case measure => simp [RowKit.intOf]
        · obtain rfl : k = 11 := by omega
          have HWK := Lib.hid (wakes_any wr)
          go_wp2_with fail
          refine HWK.out.mono ?_
          rintro e w1 ⟨rfl, hb1⟩
          have B1 := Lib.hid (bel_step HB.out (bel_step HBX.out hb1))
          clear hb1 HB HWK HBX
          go_wp2_with fail
          go_ret
          exact ⟨rfl, B1.out⟩
end Go.Proofs.Ytgadgmcabjnjjaa.Kpd
/- For every list of asks: of closed segments of one record each so many stay as have no more bytes than may be; of those that are too old none. No condition. -/
namespace Go.Proofs.Ytgadgmcabjnjjaa.keepBytes
open Go.ChangeShapes Go.WideShapes Go.ChangeAt Go.RowKit Kpd

set_option maxRecDepth 100000 in
theorem lifted (os : Os) (started : os.Started) (H : Type) (enc : TypeId × Value → H) :
    ReturnsInHanded {} Try.checked os 5 .any (Rows.keepBytesSpec.pre6 enc Try.prog Try.f5 Rows.keepBytesRow.domain false) (Rows.keepBytesSpec.post enc Try.prog Try.f5 false true false false) := by
  refine returnsInHanded_of_change_sized (C := Try.checked) ownKnob_none started (by kernel_rfl) Try.func5
    (ChangeSpec.witness6 (enc := enc) (C := Try.checked) false ⟨#[], #[.slice none 0 0], []⟩ 8 (by kernel_rfl) (by kernel_rfl) (by kernel_rfl) (by kernel_rfl)) ?_
  intro W base args ds gs before hval0 hW _ _ _
  have hval : ∀ (j : Nat) t v, Try.f5.params[j]? = some t → args[j]? = some v → Value.okWide Try.prog W .any base t v := hval0
  have hW' := hW
  obtain ⟨p, q, hA0, hV, rfl, _, _⟩ := hW
  have hA : DataW.TrodAll enc Try.prog W 0 (fun _ => true) true Try.f5.params.toList args.toList ds p := hA0
  rw [Try.params5] at hA hval
  obtain ⟨v0, d0, rfl, rfl, h0⟩ := trodAll_one hA
  obtain ⟨rfl, rfl⟩ := trodVars_none hV
  obtain ⟨a0, n0, c0, rfl⟩ := okWide_slice Try.underlying22 (hval 0 22 v0 rfl rfl)
  have lt0 : ∀ x ∈ p, x.block < W.heap.size := by obtain ⟨m, hm⟩ := h0; exact DataW.trod_lt m _ _ _ hm
  clear hA0 hval0
  refine (KeepBytes_any a0 n0 c0 W).mono fun e W' ⟨he, bel⟩ => ?_
  subst he
  exact ⟨_, rfl, _, _, _, [], _, [], hW', trodAll_mk1 (shut_bool Try.underlying4 _), trodAll_mk1 (Below.trod laidOut_true (by kernel_rfl) (of_decide_eq_true (by kernel_rfl)) h0 bel lt0), rfl, bel.frame _, fun h => by cases h⟩

theorem over : Rows.keepBytesRow.holds Try.pinned (OpenSpec.ofChange Rows.keepBytesSpec) :=
  OpenClaim.holds_of_wide 5 Try.f5 rfl rfl rfl rfl rfl rfl rfl ⟨rfl, rfl, rfl, rfl, rfl⟩ rfl rfl rfl rfl rfl (by kernel_rfl) Try.func5 (by kernel_rfl)
    (of_decide_eq_true (by kernel_rfl)) (by unfold Func.isWrapper; rw [if_neg (of_decide_eq_false (by kernel_rfl))]; exact ⟨rfl, rfl⟩)
    (fun os started H enc _ => lifted os started H enc)

theorem proved : Rows.KeepBytesSaid := over
#print axioms proved
end Go.Proofs.Ytgadgmcabjnjjaa.keepBytes
