/- The document's own answer: whether bytes may be a text, and its code points; copies of code points. -/
import Derived.Test.YtpdelhbigmijnaaTextPoint
import Derived.Test.YtpdelhbigmijnaaTextMem
import Derived.OwnWalk
namespace Go.Proofs.Ytpdelhbigmijnaa
open Go.RowKit Go.Lib Txt

/-- How long a text in a slot is. -/
def strLen : Value → Nat
  | .string t => t.size
  | _ => 0

theorem data_ne {t : ByteArray} (h : 0 < t.size) : t.data.toList ≠ [] := by
  intro e; rw [Lib.size_eq, e] at h; simp at h
theorem data_cut (t : ByteArray) (k : Nat) : (t.extract k t.size).data.toList = t.data.toList.drop k := by
  rw [Lib.extract_data, List.take_of_length_le]
  rw [List.length_drop, ← Lib.size_eq]; omega
theorem size_cut (t : ByteArray) (k : Nat) : (t.extract k t.size).size = t.size - k := by
  rw [Lib.size_eq, data_cut, List.length_drop, ← Lib.size_eq]

set_option maxRecDepth 100000 in
set_option maxHeartbeats 1000000 in
/-- fairwayref1.Text. -/
theorem RText_any (s : ByteArray) (w : World) :
    Calls Try.prog 9 #[.string s] w fun e w' => e = .returned (.int .i64 (textErr s.data.toList)) ∧ w' = w := by
  by_cases hlim : 1024 < s.size
  · have H := Lib.hid (show textErr s.data.toList = 2 by unfold textErr; rw [← Lib.size_eq, if_pos hlim])
    go_enter Try.func9, Try.ntmps9
    go_wp2
    go_ret
    exact ⟨ret_int H.out.symm, rfl⟩
  · have H : Hid (textErr s.data.toList = if chk s.data.toList = true then 0 else 8) := Lib.hid (by unfold textErr; rw [← Lib.size_eq, if_neg hlim])
    have hz : decide (1024 < (s.size : Int)) = false := by simp; omega
    go_enter Try.func9, Try.ntmps9
    go_wp2_with fail
    go_loop [0] (fun v => ∃ t : ByteArray, v = .string t ∧ t.size ≤ s.size ∧ chk t.data.toList = chk s.data.toList) (fun v => strLen v)
    case atStart => exact ⟨s, rfl, Nat.le_refl _, rfl⟩
    case round =>
      obtain ⟨t, rfl, hts, hc⟩ := hrel
      have HC := Lib.hid hc
      clear hc
      by_cases hp : 0 < t.size
      · have HS := Lib.hid (chk_step t.data.toList (data_ne hp))
        have hle := pt_le (data_ne hp)
        rw [← Lib.size_eq] at hle
        have HP := Lib.hid (fun W => point_any t W hp (by omega))
        generalize hd : pt t.data.toList = d at HS hle HP
        clear hd
        obtain ⟨r, n⟩ := d
        simp only [] at hle
        by_cases hn : n = 0
        · subst hn
          go_wp2_with (go_at_call 22; refine (HP.out _).mono ?_; rintro e w' ⟨rfl, rfl⟩)
          go_ret
          refine ⟨ret_int ?_, rfl⟩
          rw [H.out, ← HC.out, HS.out]; rfl
        · have hb : ((n : Int) == 0) = false := by simp; omega
          go_wp2_with (go_at_call 22; refine (HP.out _).mono ?_; rintro e w' ⟨rfl, rfl⟩)
          go_round
          case rel => exact ⟨_, rfl, by rw [size_cut]; omega, by rw [data_cut, ← HC.out, HS.out, if_neg hn]⟩
          case measure => simp [strLen]; omega
      · go_wp2
        go_ret
        refine ⟨ret_int ?_, rfl⟩
        have e : t.data.toList = [] := List.eq_nil_of_length_eq_zero (by rw [← Lib.size_eq]; omega)
        rw [H.out, ← HC.out, e, chk_nil]; rfl

/-! ### memory of the call's own -/
/-- A new block, and then an append onto a row of the call's own: below B nothing has turned. -/
theorem below_alloc_grown {B e size n : Nat} {w w' : World} {v : Value} {xs : List Value} {o : Obj} (hB : B ≤ w.heap.size) (hown : w.ownsRow B e size v n xs) (hg : (w.alloc o).grownBy w' v.ownBlock) : Below B w w' := by
  refine ⟨hg.os, hg.tape, hg.output, ?_, fun k hk => ?_⟩
  · have := hg.size; simp at this; omega
  · rw [hg.block k (by simp; omega)]
    · exact Below.heap_alloc w o k (by omega)
    · intro hk2
      have := (hown.lt k hk2.symm).1
      omega
theorem info21 : (Try.prog.info? 21).map (fun i => (i.zero, i.size, i.bytes)) = some (some (.int .i32 0), 1, 4) := by kernel_rfl

theorem own_snoc {w : World} {B e : Nat} {v : Value} {k : IntKind} {ys : List Int} {x : Int} (h : w.ownsRow B e 1 v (ys.length + 1) (ys.map (Value.int k) ++ [.int k x])) :
    w.ownsRow B e 1 v (ys ++ [x]).length ((ys ++ [x]).map (Value.int k)) := by simpa using h

set_option maxRecDepth 100000 in
set_option maxHeartbeats 1000000 in
/-- CopyRunes: the same numbers, in new memory. -/
theorem CopyRunes_any (xs : List Int) (A : Option Addr) (c : Nat) (w : World) (hm : xs.length ≤ 3000) (h : Nums w w.heap.size .i32 A xs) :
    Calls Try.prog 17 #[.slice A xs.length c] w fun e w' => ∃ v, e = .returned v ∧ w'.ownsRow w.heap.size 21 1 v xs.length (xs.map (Value.int .i32)) ∧ Below w.heap.size w w' := by
  obtain ⟨i0, hi, hz0, hz1, hz2⟩ := info_parts info21
  have H := Lib.hid h
  clear h
  go_enter Try.func17, Try.ntmps17
  go_wp2_with fail
  go_loopw [3, 4] (fun v i wr => ∃ (k : Nat) (ys : List Int), k ≤ xs.length ∧ i = .int .i64 (k : Int) ∧ ys = xs.take k ∧ wr.ownsRow w.heap.size 21 1 v ys.length (ys.map (Value.int .i32)) ∧ Below w.heap.size w wr) (fun _ i _ => xs.length - (RowKit.intOf i).toNat)
  case atStart => exact ⟨0, [], Nat.zero_le _, rfl, rfl, World.ownsRow_nil _ _ _ _, Below.refl _ _⟩
  case round =>
    obtain ⟨k, ys, hk, rfl, hys, hown, hnx⟩ := hrel
    by_cases hlt : k < xs.length
    · obtain ⟨a, rfl, hab, hc⟩ := (H.out.below hnx).some_ (by omega)
      have h1 := hc k hlt
      have h2 := hnx.size
      have hkI : (k : Int) < (xs.length : Int) := by omega
      have hyl : ys.length ≤ 3000 := by rw [hys, List.length_take]; omega
      have hyn : ys ++ [xs.getD k 0] = xs.take (k + 1) := by
        rw [hys, List.take_succ_eq_append_getElem hlt, List.getD_eq_getElem?_getD, List.getElem?_eq_getElem hlt]; rfl
      have HY := Lib.hid hyn
      clear hc hyn hys
      generalize xs.getD k 0 = x at h1 HY
      go_wp2_with (at_builtin; refine wpList_append_own _ rfl _ _ 24 rfl w.heap.size 21 i0 (.int .i32 0) 1 4 Try.underlying24 hi hz0 hz1 hz2 rfl (by decide) _ _ _ rfl (hown.alloc _) ⟨wr.heap.size, 0, none⟩ 1 1 [.int .i32 x] rfl rfl ?c1 ?c2 ?c3 ?c4 ?c5 ?_)
      case c1 => exact cell_one_new _ _ _
      case c2 => intro u hu; simp at hu; subst hu; rfl
      case c3 => unfold maxLen; omega
      case c4 => omega
      case c5 => simp; omega
      intro v' w1 hown' hgrow _
      have hnx' := hnx.trans (below_alloc_grown h2 hown hgrow)
      have HO := Lib.hid (own_snoc hown')
      clear hown' hgrow hown
      go_wp2
      go_roundw
      case rel => exact ⟨k + 1, ys ++ [x], hlt, by go_num, HY.out, HO.out, hnx'⟩
      case measure => simp [RowKit.intOf]; omega
    · obtain rfl : k = xs.length := by omega
      obtain rfl : ys = xs := by rw [hys, List.take_length]
      clear hys
      have HO := Lib.hid hown
      clear hown
      go_wp2
      go_ret
      exact ⟨_, rfl, HO.out, hnx⟩

/-- A slice that holds the numbers xs, in new memory. -/
def GivesNums (k : IntKind) (xs : List Int) (w : World) (e : Ending) (w' : World) : Prop := ∃ A c, e = .returned (.slice A xs.length c) ∧ Nums w' w'.heap.size k A xs ∧ Below w.heap.size w w'
theorem gives_of_own {w w' : World} {B e : Nat} {v : Value} {k : IntKind} {xs : List Int} (h : w'.ownsRow B e 1 v xs.length (xs.map (Value.int k))) (hb : Below w.heap.size w w') : GivesNums k xs w (.returned v) w' := by
  obtain ⟨A, c, rfl⟩ := own_form h
  exact ⟨A, c, rfl, Nums.of_own h, hb⟩

set_option maxRecDepth 100000 in
set_option maxHeartbeats 1000000 in
/-- fairwayref1.Runes of what may be: its code points. -/
theorem RRunes_any (s : ByteArray) (w : World) (hs : s.size ≤ 1024) (hc : chk s.data.toList = true) :
    Calls Try.prog 10 #[.string s] w (GivesNums .i32 (runes s.data.toList) w) := by
  obtain ⟨i0, hi, hz0, hz1, hz2⟩ := info_parts info21
  have H := Lib.hid hc
  clear hc
  go_enter Try.func10, Try.ntmps10
  go_wp2_with fail
  go_loopw [0, 3] (fun sv v wr => ∃ (t : ByteArray) (ys : List Int), sv = .string t ∧ ys.length + t.size ≤ s.size ∧ chk t.data.toList = true ∧ ys ++ runes t.data.toList = runes s.data.toList ∧ wr.ownsRow w.heap.size 21 1 v ys.length (ys.map (Value.int .i32)) ∧ Below w.heap.size w wr) (fun sv _ _ => strLen sv)
  case atStart => exact ⟨s, [], rfl, by simp, H.out, rfl, World.ownsRow_nil _ _ _ _, Below.refl _ _⟩
  case round =>
    obtain ⟨t, ys, rfl, hts, hc, hys, hown, hnx⟩ := hrel
    have h2 := hnx.size
    by_cases hp : 0 < t.size
    · have hne := data_ne hp
      have HS := Lib.hid (runes_step t.data.toList hne hc)
      have HD := Lib.hid (chk_drop hne hc)
      have hz := chk_pt hne hc
      have hle := pt_le hne
      rw [← Lib.size_eq] at hle
      have hr := pt_rune t.data.toList
      have HP := Lib.hid (fun W => (point_any t W hp (by omega)).mono fun _ _ h => And.intro h.1 h.2.symm)
      have HY := Lib.hid hys
      clear hc hys hne
      generalize hd : pt t.data.toList = d at HS HD hle hr HP hz
      clear hd
      obtain ⟨r, n⟩ := d
      simp only [] at hle hr hz
      go_wp2_with (first | (go_at_call 22; refine (HP.out _).mono ?_; rintro e w' ⟨rfl, rfl⟩) | (at_builtin; refine wpList_append_own _ rfl _ _ 24 rfl w.heap.size 21 i0 (.int .i32 0) 1 4 Try.underlying24 hi hz0 hz1 hz2 rfl (by decide) _ _ _ rfl (hown.alloc _) ⟨wr.heap.size, 0, none⟩ 1 1 [.int .i32 (r : Int)] rfl rfl ?c1 ?c2 ?c3 ?c4 ?c5 ?_))
      case c1 => exact cell_one_new _ _ _
      case c2 => intro u hu; simp at hu; subst hu; rfl
      case c3 => unfold maxLen; omega
      case c4 => omega
      case c5 => simp; omega
      intro v' w1 hown' hgrow _
      have hnx' := hnx.trans (below_alloc_grown h2 hown hgrow)
      have HO := Lib.hid (own_snoc hown')
      clear hown' hgrow hown
      go_wp2
      go_roundw
      case rel => exact ⟨_, ys ++ [(r : Int)], rfl, by rw [size_cut]; simp; omega, by rw [data_cut]; exact HD.out, by rw [data_cut, List.append_assoc, ← HY.out, HS.out]; rfl, HO.out, hnx'⟩
      case measure => simp [strLen]; omega
    · have e : t.data.toList = [] := List.eq_nil_of_length_eq_zero (by rw [← Lib.size_eq]; omega)
      rw [e, runes_nil, List.append_nil] at hys
      have HO := Lib.hid (show wr.ownsRow w.heap.size 21 1 _ (runes s.data.toList).length ((runes s.data.toList).map (Value.int .i32)) by rw [← hys]; exact hown)
      clear hown hys e
      go_wp2
      go_ret
      exact gives_of_own HO.out hnx
end Go.Proofs.Ytpdelhbigmijnaa
