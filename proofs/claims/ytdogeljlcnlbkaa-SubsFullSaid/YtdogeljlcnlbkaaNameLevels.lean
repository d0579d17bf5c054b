/- The levels of any bytes: the program's, and the document's own. -/
import Derived.Test.YtdogeljlcnlbkaaNameLeaf
namespace Go.Proofs.Ytdogeljlcnlbkaa
open Go.RowKit Go.Lib Txt Nam

theorem info_string : (Try.prog.info? 9).map (fun i => (i.zero, i.size, i.bytes)) = some (some (.string ⟨#[]⟩), 1, 16) := by kernel_rfl

/-- The bytes from a to b. -/
def cutL (s : ByteArray) (a b : Nat) : List UInt8 := (s.data.toList.drop a).take (b - a)
theorem extract_cutL (s : ByteArray) (a b : Nat) : s.extract a b = str (cutL s a b) := by
  unfold str cutL; rw [extract_eq]
theorem cutL_all (s : ByteArray) (a b : Nat) (h : s.size ≤ b) : cutL s a b = s.data.toList.drop a := by
  unfold cutL
  rw [List.take_of_length_le]
  rw [List.length_drop, ← Lib.size_eq]; omega
theorem cutL_nil (s : ByteArray) (a : Nat) : cutL s a a = [] := by unfold cutL; simp
theorem cutL_more (s : ByteArray) (a b c : Nat) (h : a ≤ b) : cutL s a b ++ (s.data.toList.drop b).take c = cutL s a (b + c) := by
  unfold cutL
  have e : s.data.toList.drop b = (s.data.toList.drop a).drop (b - a) := by rw [List.drop_drop]; congr 1; omega
  rw [e, show b + c - a = (b - a) + c by omega, List.take_add]
/-- What is told so far, and what is left. -/
def Told (s : ByteArray) (a b : Nat) (ys : List (List UInt8)) : Prop := a ≤ b ∧ b ≤ s.size ∧ ys.length ≤ b ∧ ys ++ pre (cutL s a b) (split (s.data.toList.drop b)) = split s.data.toList
theorem Told.start (s : ByteArray) : Told s 0 0 [] := ⟨Nat.le_refl _, Nat.zero_le _, Nat.le_refl _, by rw [cutL_nil, pre_nil (split_ne _)]; simp⟩
theorem Told.slash {s : ByteArray} {a b : Nat} {ys : List (List UInt8)} (h : Told s a b ys) (hb : b < s.size) (hs : split (s.data.toList.drop b) = [] :: split ((s.data.toList.drop b).drop 1)) : Told s (b + 1) (b + 1) (ys ++ [cutL s a b]) := by
  obtain ⟨_, _, h3, h4⟩ := h
  refine ⟨Nat.le_refl _, hb, by simp; omega, ?_⟩
  rw [cutL_nil, pre_nil (split_ne _), ← h4, hs, List.drop_drop]
  simp [pre]
theorem Told.go {s : ByteArray} {a b v : Nat} {ys : List (List UInt8)} (h : Told s a b ys) (hv : b + v ≤ s.size) (hs : split (s.data.toList.drop b) = pre ((s.data.toList.drop b).take v) (split ((s.data.toList.drop b).drop v))) : Told s a (b + v) ys := by
  obtain ⟨h1, _, h3, h4⟩ := h
  refine ⟨by omega, hv, by omega, ?_⟩
  rw [← h4, hs, pre_pre, cutL_more s a b v h1, List.drop_drop]
theorem Told.end_ {s : ByteArray} {a b : Nat} {ys : List (List UInt8)} (h : Told s a b ys) (hb : ¬ b < s.size) : ys ++ [cutL s a s.size] = split s.data.toList := by
  obtain ⟨_, h2, _, h4⟩ := h
  obtain rfl : b = s.size := by omega
  rw [← h4, List.drop_of_length_le (by rw [← Lib.size_eq]; exact Nat.le_refl _), split_nil]
  simp [pre]

set_option maxRecDepth 100000 in
set_option maxHeartbeats 4000000 in
/-- name.Levels. -/
theorem Levels_is (s : ByteArray) (w : World) (hs : s.size ≤ 1000000) : Calls Try.prog 51 #[.string s] w (GivesStrs (split s.data.toList) w) := by
  obtain ⟨i0, hi, hz0, hz1, hz2⟩ := info_parts info_string
  have HT0 := Lib.hid (Told.start s)
  go_enter Try.func51, Try.ntmps51
  go_wp2_with fail
  go_loopw [3, 4] (fun v f wr => ∃ (a b : Nat) (ys : List (List UInt8)), f = .int .i64 (a : Int) ∧ Told s a b ys ∧ wr.heap[w.heap.size]? = some (.stringIter s b) ∧ wr.ownsRow (w.heap.size + 1) 9 1 v ys.length (strs ys) ∧ Below w.heap.size w wr) (fun _ _ wr => s.size - wr.iterPos w.heap.size)
  case atStart => exact ⟨0, 0, [], rfl, HT0.out, World.iter_heap _ _ _, World.ownsRow_nil _ _ _ _, (Below.refl _ w).alloc (Nat.le_refl _) _⟩
  case round =>
    obtain ⟨a, b, ys, rfl, ht, hit, hown, hbw⟩ := hrel
    have hsz := hbw.size
    have hks : w.heap.size < wr.heap.size := (Array.getElem?_eq_some_iff.1 hit).1
    by_cases hp : b < s.size
    · have hnx := fun ty => run_next_any_at (P := Try.prog) wr w.heap.size s b ty hit hp
      obtain ⟨hw0, hd1⟩ := decodeL_at s b hp
      obtain ⟨s1, s2⟩ := split_step _ (drop_ne hp)
      rw [decodeL_drop] at s1 s2
      generalize Utf8.decode s b = d at hnx hd1 hw0 s1 s2
      obtain ⟨r, v⟩ := d
      simp only [] at hnx hd1 hw0 s1 s2
      have hit1 := Lib.hid (iterAt_heap wr w.heap.size s b (b + v) hit)
      have hown1 := Lib.hid (ownsRow_iterAt hown (Nat.lt_succ_self _) s (b + v))
      have hbw1 := Lib.hid (below_iterAt hbw (Nat.le_refl _) s (b + v))
      have hsz1 : (wr.iterAt w.heap.size s (b + v)).heap.size = wr.heap.size := iterAt_size _ _ _ _
      have hpos := Lib.hid (iterPos_of hit)
      clear hit hown hbw
      by_cases h1 : r = 47
      · have q1 : ((r : Int) == 47) = true := by simp; omega
        obtain ⟨e1, e2⟩ := s1 h1
        subst e2
        have hab := ht.1
        have hbs := ht.2.1
        have hyb := ht.2.2.1
        have HT1 := Lib.hid (Told.slash ht hp e1)
        have hX := extract_cutL s a b
        obtain ⟨X, hXe⟩ : ∃ X, X = cutL s a b := ⟨_, rfl⟩
        rw [← hXe] at HT1 hX
        have hXs : (str X).size ≤ 1000000 := by rw [← hX, ByteArray.size_extract]; omega
        have HC := Lib.hid (fun W => Clone_same (str X) W (by omega))
        have HXe := Lib.hid hX
        have hyl : ys.length ≤ 1000000 := by omega
        have habI : (a : Int) ≤ (b : Int) := by omega
        have hbsI : (b : Int) ≤ (s.size : Int) := by omega
        clear h1 s1 s2 e1 hXe hX ht
        generalize wr.iterAt w.heap.size s (b + 1) = W1 at hnx hit1 hown1 hbw1 hsz1
        have hszW := hbw1.out.size
        have hitl : w.heap.size < W1.heap.size := by omega
        go_wp2_with fail
        rw [HXe.out]
        refine (HC.out _).mono ?_
        rintro e w2 ⟨rfl, hb2⟩
        have hown2 := own_below hown1.out hb2
        have hit2 := Lib.hid (show w2.heap[w.heap.size]? = some (.stringIter s (b + 1)) by rw [hb2.block _ hitl]; exact hit1.out)
        have hbw2 := hbw1.out.trans (hb2.mono hszW)
        have hs2 := hb2.size
        have hB2 : w.heap.size + 1 ≤ w2.heap.size := by omega
        clear hb2 hit1 hown1 hbw1 HC hnx
        go_wp2_with (at_builtin; refine wpList_append_own _ rfl _ _ 78 rfl (w.heap.size + 1) 9 i0 (.string ⟨#[]⟩) 1 16 Try.underlying78 hi hz0 hz1 hz2 rfl (by decide) _ _ _ rfl (hown2.alloc _) ⟨w2.heap.size, 0, none⟩ 1 1 [.string (str X)] rfl rfl ?c1 ?c2 ?c3 ?c4 ?c5 ?_)
        case c1 => exact cell_one_new _ _ _
        case c2 => intro u hu; simp at hu; subst hu; rfl
        case c3 => unfold maxLen; omega
        case c4 => omega
        case c5 => simp; omega
        intro v' w3 hown' hgrow _
        have hb3 := below_alloc_grown hB2 hown2 hgrow
        have hit3 := Lib.hid (show w3.heap[w.heap.size]? = some (.stringIter s (b + 1)) by rw [hb3.block _ (by omega)]; exact hit2.out)
        have HO := Lib.hid (own_str_snoc hown')
        have HB := Lib.hid (hbw2.trans (hb3.mono (Nat.le_succ _)))
        clear hown' hgrow hown2 hb3 hit2 hbw2
        go_wp2
        go_roundw
        case rel => exact ⟨b + 1, b + 1, ys ++ [X], by go_num, HT1.out, hit3.out, HO.out, HB.out⟩
        case measure => rw [hpos.out, iterPos_of hit3.out]; omega
      · have q1 : ((r : Int) == 47) = false := by simp; omega
        have HT1 := Lib.hid (ht.go hd1 (s2 h1))
        clear h1 s1 s2 ht
        go_wp2
        go_roundw
        case rel => exact ⟨a, b + v, ys, rfl, HT1.out, hit1.out, hown1.out, hbw1.out⟩
        case measure => rw [hpos.out, iterPos_of hit1.out]; omega
    · have hnx := fun ty => run_next_end_at (P := Try.prog) wr w.heap.size s b ty hit hp
      have hab := ht.1
      have hbs := ht.2.1
      have hyb := ht.2.2.1
      have HT1 := Lib.hid (ht.end_ hp)
      have hX := extract_cutL s a s.size
      obtain ⟨X, hXe⟩ : ∃ X, X = cutL s a s.size := ⟨_, rfl⟩
      rw [← hXe] at HT1 hX
      have hXs : (str X).size ≤ 1000000 := by rw [← hX, ByteArray.size_extract]; omega
      have HC := Lib.hid (fun W => Clone_same (str X) W (by omega))
      have HXe := Lib.hid hX
      have hyl : ys.length ≤ 1000000 := by omega
      have habI : (a : Int) ≤ (s.size : Int) := by omega
      have hown1 := Lib.hid hown
      have hbw1 := Lib.hid hbw
      clear hXe hX ht hown hbw hit
      go_wp2_with fail
      rw [HXe.out]
      refine (HC.out _).mono ?_
      rintro e w2 ⟨rfl, hb2⟩
      have hown2 := own_below hown1.out hb2
      have hbw2 := hbw1.out.trans (hb2.mono hsz)
      have hs2 := hb2.size
      have hB2 : w.heap.size + 1 ≤ w2.heap.size := by omega
      clear hb2 hown1 hbw1 HC hnx
      go_wp2_with (at_builtin; refine wpList_append_own _ rfl _ _ 78 rfl (w.heap.size + 1) 9 i0 (.string ⟨#[]⟩) 1 16 Try.underlying78 hi hz0 hz1 hz2 rfl (by decide) _ _ _ rfl (hown2.alloc _) ⟨w2.heap.size, 0, none⟩ 1 1 [.string (str X)] rfl rfl ?d1 ?d2 ?d3 ?d4 ?d5 ?_)
      case d1 => exact cell_one_new _ _ _
      case d2 => intro u hu; simp at hu; subst hu; rfl
      case d3 => unfold maxLen; omega
      case d4 => omega
      case d5 => simp; omega
      intro v' w3 hown' hgrow _
      have hb3 := below_alloc_grown hB2 hown2 hgrow
      have HO := Lib.hid (own_str_snoc hown')
      have HB := Lib.hid (hbw2.trans (hb3.mono (Nat.le_succ _)))
      clear hown' hgrow hown2 hb3 hbw2
      go_wp2
      go_ret
      have ho := HO.out
      rw [HT1.out] at ho
      exact gives_strs ho (Nat.le_succ _) HB.out
end Go.Proofs.Ytdogeljlcnlbkaa
