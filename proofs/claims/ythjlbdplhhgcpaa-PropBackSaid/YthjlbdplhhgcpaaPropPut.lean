/- Package prop: the bytes of a value, by its kind. -/
import Derived.Test.YthjlbdplhhgcpaaPropVal
import Derived.Test.YthjlbdplhhgcpaaPropMem
import Derived.Test.YthjlbdplhhgcpaaVbiLong
namespace Go.Proofs.Ythjlbdplhhgcpaa
open Go.RowKit Go.Lib Prp Vbi

/-- Is a value one that package vbi writes (a byte: 0 or 1)? -/
def putB (k n : Int) (s v : ByteArray) : Bool :=
  if k = 1 then decide (n = 0 ∨ n = 1) else if k = 2 then decide (0 ≤ n ∧ n < 65536) else if k = 3 then decide (0 ≤ n ∧ n < 4294967296) else if k = 4 then decide (0 ≤ n ∧ n < 268435456)
  else if k = 5 then textB s else if k = 6 then binB s else textB s && textB v
/-- An error, whichever. -/
def Wrong (w : World) (e : Ending) (w' : World) : Prop := ∃ (S : ByteArray) (E : Int), e = .returned (.tuple #[.string S, .int .i64 E]) ∧ E ≠ 0 ∧ Below w.heap.size w w'
theorem ne_true {a b : Int} (h : a ≠ b) : (a != b) = true := by rw [bne_iff_ne]; exact h

theorem Text_yes (s A : ByteArray) (w : World) (hm : s.size ≤ 9223372036854775807) (h : textB s = true) (hA : strOfNums (fixZ 2 s.size) ++ s = A) :
    Calls Try.prog 62 #[.string s] w fun e w' => e = .returned (.tuple #[.string A, .int .i64 0]) ∧ Below w.heap.size w w' := by
  unfold textB at h
  have h0 := of_decide_eq_true h
  refine Text_is s A 0 w hm ?_ h0
  rcases lo_cases true s with ⟨_, _, e⟩ | ⟨e, _⟩
  · exact e.trans hA
  · exact absurd h0 e
theorem Text_no (s : ByteArray) (w : World) (hm : s.size ≤ 9223372036854775807) (h : textB s = false) :
    Calls Try.prog 62 #[.string s] w fun e w' => ∃ E : Int, e = .returned (.tuple #[.string ⟨#[]⟩, .int .i64 E]) ∧ E ≠ 0 ∧ Below w.heap.size w w' := by
  unfold textB at h
  have h0 := of_decide_eq_false h
  rcases lo_cases true s with ⟨e, _, _⟩ | ⟨_, e⟩
  · exact absurd e h0
  · exact (Text_is s _ _ w hm e rfl).mono fun _ _ ⟨h1, h2⟩ => ⟨_, h1, h0, h2⟩
theorem text_size {s : ByteArray} (h : textB s = true) : s.size ≤ 1024 := by
  unfold textB at h
  exact loErr_zero (of_decide_eq_true h)
theorem size_2 (s : ByteArray) : (strOfNums (fixZ 2 s.size) ++ s).size = 2 + s.size := by rw [ByteArray.size_append, fix2_size]

set_option maxHeartbeats 2000000 in
theorem putPair_good (s v S : ByteArray) (w : World) (h1 : textB s = true) (h2 : textB v = true)
    (hS : (strOfNums (fixZ 2 s.size) ++ s) ++ (strOfNums (fixZ 2 v.size) ++ v) = S) :
    Calls Try.prog 64 #[.agg #[.string s, .string v]] w fun e w' => e = .returned (.tuple #[.string S, .int .i64 0]) ∧ Below w.heap.size w w' := by
  have z1 := text_size h1
  have z2 := text_size h2
  obtain ⟨A, hA⟩ : ∃ A, strOfNums (fixZ 2 s.size) ++ s = A := ⟨_, rfl⟩
  obtain ⟨B, hB⟩ : ∃ B, strOfNums (fixZ 2 v.size) ++ v = B := ⟨_, rfl⟩
  have HA := Lib.hid (fun W => Text_yes s A W (by omega) h1 hA)
  have HB := Lib.hid (fun W => Text_yes v B W (by omega) h2 hB)
  have hAz : A.size ≤ 1026 := by rw [← hA, size_2]; omega
  have hBz : B.size ≤ 1026 := by rw [← hB, size_2]; omega
  rw [hA, hB] at hS
  have HS := Lib.hid hS
  clear h1 h2 hA hB hS
  go_enter Try.func64, Try.ntmps64
  go_wp2_with fail
  refine (HA.out _).mono ?_
  rintro e w1 ⟨rfl, hb1⟩
  have q1 : w1.cell? ⟨w.heap.size, 1, none⟩ = some (.string v) := ((Box.new w _ _).below hb1).cell 1
  have HX1 := Lib.hid (((Below.refl w.heap.size w).alloc (Nat.le_refl _) (.cells #[.string s, .string v] 93)).trans (hb1.mono (by simp)))
  clear hb1 HA
  go_wp2_with fail
  refine (HB.out _).mono ?_
  rintro e w2 ⟨rfl, hb2⟩
  have HX2 := Lib.hid (HX1.out.trans (hb2.mono HX1.out.size))
  clear hb2 HB q1
  go_wp2_with fail
  go_ret2
  exact ⟨by rw [← HS.out]; rfl, HX2.out⟩
set_option maxHeartbeats 2000000 in
theorem putPair_bad (s v : ByteArray) (w : World) (hs : s.size ≤ 9223372036854775807) (hv : v.size ≤ 9223372036854775807) (h : (textB s && textB v) = false) :
    Calls Try.prog 64 #[.agg #[.string s, .string v]] w (Wrong w) := by
  cases h1 : textB s with
  | false =>
    have HA := Lib.hid (fun W => Text_no s W hs h1)
    clear h h1
    go_enter Try.func64, Try.ntmps64
    go_wp2_with fail
    refine (HA.out _).mono ?_
    rintro e w1 ⟨E, rfl, hE, hb1⟩
    have HX1 := Lib.hid (((Below.refl w.heap.size w).alloc (Nat.le_refl _) (.cells #[.string s, .string v] 93)).trans (hb1.mono (by simp)))
    have hb := ne_true hE
    have HE := Lib.hid hE
    clear hb1 HA hE
    go_wp2_with fail
    go_ret2
    exact ⟨_, E, rfl, HE.out, HX1.out⟩
  | true =>
    have h2 : textB v = false := by rw [h1, Bool.true_and] at h; exact h
    have z1 := text_size h1
    obtain ⟨A, hA⟩ : ∃ A, strOfNums (fixZ 2 s.size) ++ s = A := ⟨_, rfl⟩
    have HA := Lib.hid (fun W => Text_yes s A W hs h1 hA)
    have HB := Lib.hid (fun W => Text_no v W hv h2)
    clear h h1 h2 hA
    go_enter Try.func64, Try.ntmps64
    go_wp2_with fail
    refine (HA.out _).mono ?_
    rintro e w1 ⟨rfl, hb1⟩
    have q1 : w1.cell? ⟨w.heap.size, 1, none⟩ = some (.string v) := ((Box.new w _ _).below hb1).cell 1
    have HX1 := Lib.hid (((Below.refl w.heap.size w).alloc (Nat.le_refl _) (.cells #[.string s, .string v] 93)).trans (hb1.mono (by simp)))
    clear hb1 HA
    go_wp2_with fail
    refine (HB.out _).mono ?_
    rintro e w2 ⟨E, rfl, hE, hb2⟩
    have HX2 := Lib.hid (HX1.out.trans (hb2.mono HX1.out.size))
    have hb := ne_true hE
    have HE := Lib.hid hE
    clear hb2 HB q1 hE
    go_wp2_with fail
    go_ret2
    exact ⟨_, E, rfl, HE.out, HX2.out⟩

/-- One byte as a string. -/
theorem conv_byte (z : Int) (w : World) : (convert 53 9 (.slice (some ⟨w.heap.size, 0, none⟩) 1 1)).run Try.prog (w.alloc (.cells #[.int .u8 z] 5)) = .ok (.string (strOfNums [z])) (w.alloc (.cells #[.int .u8 z] 5)) := by
  have hown : (w.alloc (.cells #[.int .u8 z] 5)).ownsRow w.heap.size 5 1 (.slice (some ⟨w.heap.size, 0, none⟩) 1 1) ([z] : List Int).length (([z] : List Int).map (Value.int .u8)) :=
    ⟨rfl, .inr ⟨w.heap.size, 1, #[.int .u8 z], rfl, Nat.le_refl _, heap_alloc_new w _, Nat.le_refl _, by unfold maxLen; omega, rfl, rfl⟩⟩
  exact conv_bytes hown
set_option maxRecDepth 100000 in
set_option maxHeartbeats 1000000 in
theorem put_1 (n : Int) (S : ByteArray) (w : World) (h : n = 0 ∨ n = 1) (hS : strOfNums [n] = S) :
    Calls Try.prog 48 #[.int .i64 1, .iface 3 (.int .i64 n)] w fun e w' => e = .returned (.tuple #[.string S, .int .i64 0]) ∧ Below w.heap.size w w' := by
  have HS := Lib.hid hS
  clear hS
  have a1 := to_i
  have hcv := conv_byte
  rcases h with rfl | rfl <;>
  · go_enter Try.func48, Try.ntmps48
    go_wp2
    go_ret2
    exact ⟨by rw [← HS.out]; rfl, (Below.refl _ _).alloc (Nat.le_refl _) _⟩
set_option maxHeartbeats 1000000 in
theorem put_2 (n : Int) (S : ByteArray) (E : Int) (w : World) (h1 : n ≤ 9223372036854775807) (hS : fixStr 2 n = S) (hE : fixErr 2 n = E) :
    Calls Try.prog 48 #[.int .i64 2, .iface 3 (.int .i64 n)] w fun e w' => e = .returned (.tuple #[.string S, .int .i64 E]) ∧ Below w.heap.size w w' := by
  have H := Lib.hid (fun W => Two_is n S E W h1 hS hE)
  clear hS hE
  have a1 := to_i
  go_enter Try.func48, Try.ntmps48
  go_wp2_with fail
  refine (H.out _).mono ?_
  rintro e w1 ⟨rfl, hb1⟩
  have HX := Lib.hid hb1
  clear hb1
  go_wp2_with fail
  go_ret2
  exact ⟨rfl, HX.out⟩
set_option maxHeartbeats 1000000 in
theorem put_3 (n : Int) (S : ByteArray) (E : Int) (w : World) (h1 : n ≤ 9223372036854775807) (hS : fixStr 4 n = S) (hE : fixErr 4 n = E) :
    Calls Try.prog 48 #[.int .i64 3, .iface 3 (.int .i64 n)] w fun e w' => e = .returned (.tuple #[.string S, .int .i64 E]) ∧ Below w.heap.size w w' := by
  have H := Lib.hid (fun W => Four_is n S E W h1 hS hE)
  clear hS hE
  have a1 := to_i
  go_enter Try.func48, Try.ntmps48
  go_wp2_with fail
  refine (H.out _).mono ?_
  rintro e w1 ⟨rfl, hb1⟩
  have HX := Lib.hid hb1
  clear hb1
  go_wp2_with fail
  go_ret2
  exact ⟨rfl, HX.out⟩
set_option maxHeartbeats 1000000 in
theorem put_4 (n : Int) (S : ByteArray) (E : Int) (w : World) (hS : numStr n = S) (hE : numErr n = E) :
    Calls Try.prog 48 #[.int .i64 4, .iface 3 (.int .i64 n)] w fun e w' => e = .returned (.tuple #[.string S, .int .i64 E]) ∧ Below w.heap.size w w' := by
  have H := Lib.hid (fun W => Num_is n S E W hS hE)
  clear hS hE
  have a1 := to_i
  go_enter Try.func48, Try.ntmps48
  go_wp2_with fail
  refine (H.out _).mono ?_
  rintro e w1 ⟨rfl, hb1⟩
  have HX := Lib.hid hb1
  clear hb1
  go_wp2_with fail
  go_ret2
  exact ⟨rfl, HX.out⟩
set_option maxHeartbeats 1000000 in
theorem put_5 (s S : ByteArray) (E : Int) (w : World) (h1 : s.size ≤ 9223372036854775807) (hS : loStr true s = S) (hE : loErr true s = E) :
    Calls Try.prog 48 #[.int .i64 5, .iface 9 (.string s)] w fun e w' => e = .returned (.tuple #[.string S, .int .i64 E]) ∧ Below w.heap.size w w' := by
  have H := Lib.hid (fun W => Text_is s S E W h1 hS hE)
  clear hS hE
  have a1 := to_s
  go_enter Try.func48, Try.ntmps48
  go_wp2_with fail
  refine (H.out _).mono ?_
  rintro e w1 ⟨rfl, hb1⟩
  have HX := Lib.hid hb1
  clear hb1
  go_wp2_with fail
  go_ret2
  exact ⟨rfl, HX.out⟩
set_option maxHeartbeats 1000000 in
theorem put_6 (s S : ByteArray) (E : Int) (w : World) (hS : binStr s = S) (hE : binErr s = E) :
    Calls Try.prog 48 #[.int .i64 6, .iface 9 (.string s)] w fun e w' => e = .returned (.tuple #[.string S, .int .i64 E]) ∧ Below w.heap.size w w' := by
  have H := Lib.hid (fun W => Bin_is s S E W hS hE)
  clear hS hE
  have a1 := to_s
  go_enter Try.func48, Try.ntmps48
  go_wp2_with fail
  refine (H.out _).mono ?_
  rintro e w1 ⟨rfl, hb1⟩
  have HX := Lib.hid hb1
  clear hb1
  go_wp2_with fail
  go_ret2
  exact ⟨rfl, HX.out⟩
set_option maxHeartbeats 1000000 in
theorem put_7 (s v S : ByteArray) (w : World) (h1 : textB s = true) (h2 : textB v = true) (hS : (strOfNums (fixZ 2 s.size) ++ s) ++ (strOfNums (fixZ 2 v.size) ++ v) = S) :
    Calls Try.prog 48 #[.int .i64 7, .iface 93 (.agg #[.string s, .string v])] w fun e w' => e = .returned (.tuple #[.string S, .int .i64 0]) ∧ Below w.heap.size w w' := by
  have H := Lib.hid (fun W => putPair_good s v S W h1 h2 hS)
  clear hS h1 h2
  have a1 := to_p
  go_enter Try.func48, Try.ntmps48
  go_wp2_with fail
  refine (H.out _).mono ?_
  rintro e w1 ⟨rfl, hb1⟩
  have HX := Lib.hid hb1
  clear hb1
  go_wp2_with fail
  go_ret2
  exact ⟨rfl, HX.out⟩
set_option maxHeartbeats 1000000 in
theorem put_7bad (s v : ByteArray) (w : World) (hs : s.size ≤ 9223372036854775807) (hv : v.size ≤ 9223372036854775807) (h : (textB s && textB v) = false) :
    Calls Try.prog 48 #[.int .i64 7, .iface 93 (.agg #[.string s, .string v])] w (Wrong w) := by
  have H := Lib.hid (fun W => putPair_bad s v W hs hv h)
  clear hs hv h
  have a1 := to_p
  go_enter Try.func48, Try.ntmps48
  go_wp2_with fail
  refine (H.out _).mono ?_
  rintro e w1 ⟨T, E, rfl, hE, hb1⟩
  have HX := Lib.hid hb1
  have HE := Lib.hid hE
  clear hb1 hE
  go_wp2_with fail
  go_ret2
  exact ⟨T, E, rfl, HE.out, HX.out⟩
end Go.Proofs.Ythjlbdplhhgcpaa
