/- Package prop: the bytes of one property. -/
import Derived.Test.YtiancngpknnkaaaGreatB01
import Derived.Test.YtiancngpknnkaaaGreatB04
import Derived.Deep.RegionHeld3
set_option maxRecDepth 100000
set_option maxHeartbeats 64000000
namespace Go.Proofs.YtiancngpknnkaaaGreat
open Go.RowKit Go.Lib Prp
theorem ne_false {a b : Int} (h : a ≠ b) : (a == b) = false := by rw [beq_eq_false_iff_ne]; exact h
theorem Kind_is (id K E : Int) (w : World) (hK : kindZ id = K) (hE : kindErr id = E) :
    Calls Tryz.prog 162 #[.int .i64 id] w fun e w' => e = .returned (.tuple #[.int .i64 K, .int .i64 E]) ∧ w = w' := by
  rcases kind_cases id with c | c | c | c | c | c | c | c
  · rcases c with rfl | rfl | rfl | rfl | rfl | rfl | rfl | rfl <;>
    · obtain rfl : 1 = K := hK
      obtain rfl : 0 = E := hE
      go_enter Tryz.func162, Tryz.ntmps162
      go_wp2
      go_ret2
      exact ⟨rfl, rfl⟩
  · rcases c with rfl | rfl | rfl | rfl <;>
    · obtain rfl : 2 = K := hK
      obtain rfl : 0 = E := hE
      go_enter Tryz.func162, Tryz.ntmps162
      go_wp2
      go_ret2
      exact ⟨rfl, rfl⟩
  · rcases c with rfl | rfl | rfl | rfl <;>
    · obtain rfl : 3 = K := hK
      obtain rfl : 0 = E := hE
      go_enter Tryz.func162, Tryz.ntmps162
      go_wp2
      go_ret2
      exact ⟨rfl, rfl⟩
  · obtain rfl := c
    obtain rfl : 4 = K := hK
    obtain rfl : 0 = E := hE
    go_enter Tryz.func162, Tryz.ntmps162
    go_wp2
    go_ret2
    exact ⟨rfl, rfl⟩
  · rcases c with rfl | rfl | rfl | rfl | rfl | rfl | rfl <;>
    · obtain rfl : 5 = K := hK
      obtain rfl : 0 = E := hE
      go_enter Tryz.func162, Tryz.ntmps162
      go_wp2
      go_ret2
      exact ⟨rfl, rfl⟩
  · rcases c with rfl | rfl <;>
    · obtain rfl : 6 = K := hK
      obtain rfl : 0 = E := hE
      go_enter Tryz.func162, Tryz.ntmps162
      go_wp2
      go_ret2
      exact ⟨rfl, rfl⟩
  · obtain rfl := c
    obtain rfl : 7 = K := hK
    obtain rfl : 0 = E := hE
    go_enter Tryz.func162, Tryz.ntmps162
    go_wp2
    go_ret2
    exact ⟨rfl, rfl⟩
  · obtain rfl : 0 = K := (kind_none c).symm.trans hK
    obtain rfl : 3 = E := by rw [← hE]; unfold kindErr; rw [if_pos (kind_none c)]
    clear hK hE
    obtain ⟨⟨a1, a2, a3, a4, a5, a6, a7, a8⟩, ⟨b1, b2, b3, b4⟩, ⟨c1, c2, c3, c4⟩, d1, ⟨e1, e2, e3, e4, e5, e6, e7⟩, ⟨f1, f2⟩, g1⟩ := c
    replace a1 := ne_false a1
    replace a2 := ne_false a2
    replace a3 := ne_false a3
    replace a4 := ne_false a4
    replace a5 := ne_false a5
    replace a6 := ne_false a6
    replace a7 := ne_false a7
    replace a8 := ne_false a8
    replace b1 := ne_false b1
    replace b2 := ne_false b2
    replace b3 := ne_false b3
    replace b4 := ne_false b4
    replace c1 := ne_false c1
    replace c2 := ne_false c2
    replace c3 := ne_false c3
    replace c4 := ne_false c4
    replace d1 := ne_false d1
    replace e1 := ne_false e1
    replace e2 := ne_false e2
    replace e3 := ne_false e3
    replace e4 := ne_false e4
    replace e5 := ne_false e5
    replace e6 := ne_false e6
    replace e7 := ne_false e7
    replace f1 := ne_false f1
    replace f2 := ne_false f2
    replace g1 := ne_false g1
    go_enter Tryz.func162, Tryz.ntmps162
    go_wp2
    go_ret2
    exact ⟨rfl, rfl⟩
open Go.RowKit Go.Lib Prp
theorem dec_true' {p : Prop} [Decidable p] {b : Bool} (h : decide p = b) (hp : p) : true = b := by rw [← h]; exact (decide_eq_true hp).symm
theorem dec_false' {p : Prop} [Decidable p] {b : Bool} (h : decide p = b) (hp : ¬ p) : false = b := by rw [← h]; exact (decide_eq_false hp).symm
theorem eq_dec' {p : Prop} [Decidable p] {a b : Bool} (h : decide p = b) (hp : a = true ↔ p) : a = b := by rw [← h, Bool.eq_iff_iff, hp]; simp
theorem isPlace_is (x : Int) (b : Bool) (w : World) (h : placeB x = b) :
    Calls Tryz.prog 136 #[.int .i64 x] w fun e w' => e = .returned (.bool b) ∧ w = w' := by
  have HB := Lib.hid h
  clear h
  unfold placeB at HB
  by_cases h0 : 0 ≤ x
  · go_enter Tryz.func136, Tryz.ntmps136
    go_wp2
    go_ret
    exact ⟨ret_bool (eq_dec' HB.out (by simp; omega)), rfl⟩
  · go_enter Tryz.func136, Tryz.ntmps136
    go_wp2
    go_ret
    exact ⟨ret_bool (dec_false' HB.out (by omega)), rfl⟩
theorem mayRepeat_is (x id : Int) (b : Bool) (w : World) (h : repB x id = b) :
    Calls Tryz.prog 161 #[.int .i64 x, .int .i64 id] w fun e w' => e = .returned (.bool b) ∧ w = w' := by
  have HB := Lib.hid h
  clear h
  unfold repB at HB
  by_cases h38 : id = 38
  · subst h38
    go_enter Tryz.func161, Tryz.ntmps161
    go_wp2
    go_ret
    exact ⟨ret_bool (dec_true' HB.out (by simp)), rfl⟩
  · have b38 := ne_false h38
    by_cases h11 : id = 11
    · subst h11
      by_cases h3 : x = 3
      · subst h3
        go_enter Tryz.func161, Tryz.ntmps161
        go_wp2
        go_ret
        exact ⟨ret_bool (dec_true' HB.out (by simp)), rfl⟩
      · have b3 := ne_false h3
        go_enter Tryz.func161, Tryz.ntmps161
        go_wp2
        go_ret
        exact ⟨ret_bool (dec_false' HB.out (by omega)), rfl⟩
    · have b11 := ne_false h11
      go_enter Tryz.func161, Tryz.ntmps161
      go_wp2
      go_ret
      exact ⟨ret_bool (dec_false' HB.out (by omega)), rfl⟩
theorem have_split (id : Int) : (id = 11 ∨ id = 33 ∨ id = 35 ∨ id = 39) ∨ (id ≠ 11 ∧ id ≠ 33 ∧ id ≠ 35 ∧ id ≠ 39) := by omega
theorem have_no {id n : Int} (c : noZ id) : haveB id n = decide (n ≠ 0) := if_pos c
theorem have_yes {id n : Int} (c : ¬ noZ id) : haveB id n = decide (kindZ id ≠ 1 ∨ n = 0 ∨ n = 1) := if_neg c
theorem mayHave_is (id n : Int) (b : Bool) (w : World) (h : haveB id n = b) :
    Calls Tryz.prog 160 #[.int .i64 id, .int .i64 n] w fun e w' => e = .returned (.bool b) ∧ w = w' := by
  rcases have_split id with c | ⟨h1, h2, h3, h4⟩
  · have HB := Lib.hid ((have_no c).symm.trans h)
    clear h
    rcases c with rfl | rfl | rfl | rfl <;>
    · go_enter Tryz.func160, Tryz.ntmps160
      go_wp2
      go_ret
      exact ⟨ret_bool (eq_dec' HB.out (by simp)), rfl⟩
  · have HB := Lib.hid ((have_yes (show ¬ noZ id by unfold noZ; omega)).symm.trans h)
    clear h
    have b1 := ne_false h1
    have b2 := ne_false h2
    have b3 := ne_false h3
    have b4 := ne_false h4
    obtain ⟨K, hK⟩ : ∃ K, kindZ id = K := ⟨_, rfl⟩
    have HK := Lib.hid (fun W => Kind_is id K _ W hK rfl)
    have hb2 := HB.out
    rw [hK] at hb2
    have HC := Lib.hid hb2
    clear hK hb2 HB
    by_cases hk : K = 1
    · subst hk
      by_cases hn : n = 0
      · subst hn
        go_enter Tryz.func160, Tryz.ntmps160
        go_wp2_with (go_at_call 162; refine (HK.out _).mono ?_; rintro e w' ⟨rfl, rfl⟩)
        go_ret
        exact ⟨ret_bool (dec_true' HC.out (by simp)), rfl⟩
      · have bn := ne_false hn
        go_enter Tryz.func160, Tryz.ntmps160
        go_wp2_with (go_at_call 162; refine (HK.out _).mono ?_; rintro e w' ⟨rfl, rfl⟩)
        go_ret
        exact ⟨ret_bool (eq_dec' HC.out (by simp; omega)), rfl⟩
    · have bk : (K != 1) = true := by rw [bne_iff_ne]; exact hk
      go_enter Tryz.func160, Tryz.ntmps160
      go_wp2_with (go_at_call 162; refine (HK.out _).mono ?_; rintro e w' ⟨rfl, rfl⟩)
      go_ret
      exact ⟨ret_bool (dec_true' HC.out (.inl hk)), rfl⟩
open Go.RowKit Go.Lib Prp
theorem as_ii (v : Value) (w : World) : (Instr.typeAssert (.iface 3 v) 20 3 true).run Tryz.prog w = .ok (.tuple #[v, .bool true]) w := by kernel_rfl
theorem as_si (v : Value) (w : World) : (Instr.typeAssert (.iface 9 v) 20 3 true).run Tryz.prog w = .ok (.tuple #[.int .i64 0, .bool false]) w := by kernel_rfl
theorem as_ss (v : Value) (w : World) : (Instr.typeAssert (.iface 9 v) 20 9 true).run Tryz.prog w = .ok (.tuple #[v, .bool true]) w := by kernel_rfl
theorem as_pi (v : Value) (w : World) : (Instr.typeAssert (.iface 199 v) 20 3 true).run Tryz.prog w = .ok (.tuple #[.int .i64 0, .bool false]) w := by kernel_rfl
theorem as_ps (v : Value) (w : World) : (Instr.typeAssert (.iface 199 v) 20 9 true).run Tryz.prog w = .ok (.tuple #[.string ByteArray.empty, .bool false]) w := by kernel_rfl
theorem to_i (v : Value) (w : World) : (Instr.typeAssert (.iface 3 v) 20 3 false).run Tryz.prog w = .ok v w := by kernel_rfl
theorem to_s (v : Value) (w : World) : (Instr.typeAssert (.iface 9 v) 20 9 false).run Tryz.prog w = .ok v w := by kernel_rfl
theorem to_p (v : Value) (w : World) : (Instr.typeAssert (.iface 199 v) 20 199 false).run Tryz.prog w = .ok v w := by kernel_rfl
theorem valueOf_num (k id n : Int) (s v : ByteArray) (w : World) (h : k ≠ 5 ∧ k ≠ 6 ∧ k ≠ 7) :
    Calls Tryz.prog 163 #[.int .i64 k, .agg #[.int .i64 id, .int .i64 n, .string s, .string v]] w fun e w' => e = .returned (.iface 3 (.int .i64 n)) ∧ Below w.heap.size w w' := by
  obtain ⟨h5, h6, h7⟩ := h
  replace h5 := ne_false h5
  replace h6 := ne_false h6
  replace h7 := ne_false h7
  go_enter Tryz.func163, Tryz.ntmps163
  go_wp2
  go_ret
  exact ⟨rfl, (Below.refl _ _).alloc (Nat.le_refl _) _⟩
theorem valueOf_str (k id n : Int) (s v : ByteArray) (w : World) (h : k = 5 ∨ k = 6) :
    Calls Tryz.prog 163 #[.int .i64 k, .agg #[.int .i64 id, .int .i64 n, .string s, .string v]] w fun e w' => e = .returned (.iface 9 (.string s)) ∧ Below w.heap.size w w' := by
  rcases h with rfl | rfl <;>
  · go_enter Tryz.func163, Tryz.ntmps163
    go_wp2
    go_ret
    exact ⟨rfl, (Below.refl _ _).alloc (Nat.le_refl _) _⟩
theorem valueOf_two (id n : Int) (s v : ByteArray) (w : World) :
    Calls Tryz.prog 163 #[.int .i64 7, .agg #[.int .i64 id, .int .i64 n, .string s, .string v]] w fun e w' => e = .returned (.iface 199 (.agg #[.string s, .string v])) ∧ Below w.heap.size w w' := by
  go_enter Tryz.func163, Tryz.ntmps163
  go_wp2
  go_ret
  exact ⟨rfl, (Below.refl _ _).alloc (Nat.le_refl _) _⟩
theorem propOf_num (id n : Int) (w : World) :
    Calls Tryz.prog 165 #[.int .i64 id, .iface 3 (.int .i64 n)] w fun e w' => e = .returned (.agg #[.int .i64 id, .int .i64 n, .string ⟨#[]⟩, .string ⟨#[]⟩]) ∧ Below w.heap.size w w' := by
  have as_ii0 := as_ii
  go_enter Tryz.func165, Tryz.ntmps165
  go_wp2
  refine bodyPost_ret (v := .agg #[.int .i64 id, .int .i64 n, .string ⟨#[]⟩, .string ⟨#[]⟩]) (by simp [results, Tryz.results165, go_sem]) rfl ⟨rfl, ?_⟩
  exact (Below.refl _ _).alloc (Nat.le_refl _) _
theorem propOf_str (id : Int) (s : ByteArray) (w : World) :
    Calls Tryz.prog 165 #[.int .i64 id, .iface 9 (.string s)] w fun e w' => e = .returned (.agg #[.int .i64 id, .int .i64 0, .string s, .string ⟨#[]⟩]) ∧ Below w.heap.size w w' := by
  have as_si0 := as_si
  have as_ss0 := as_ss
  go_enter Tryz.func165, Tryz.ntmps165
  go_wp2
  refine bodyPost_ret (v := .agg #[.int .i64 id, .int .i64 0, .string s, .string ⟨#[]⟩]) (by simp [results, Tryz.results165, go_sem]) rfl ⟨rfl, ?_⟩
  exact (Below.refl _ _).alloc (Nat.le_refl _) _
theorem propOf_two (id : Int) (s v : ByteArray) (w : World) :
    Calls Tryz.prog 165 #[.int .i64 id, .iface 199 (.agg #[.string s, .string v])] w fun e w' => e = .returned (.agg #[.int .i64 id, .int .i64 0, .string s, .string v]) ∧ Below w.heap.size w w' := by
  have as_pi0 := as_pi
  have as_ps0 := as_ps
  have to_p0 := to_p
  go_enter Tryz.func165, Tryz.ntmps165
  go_wp2
  refine bodyPost_ret (v := .agg #[.int .i64 id, .int .i64 0, .string s, .string v]) (by simp [results, Tryz.results165, go_sem]) rfl ⟨rfl, ?_⟩
  exact ((Below.refl _ _).alloc (Nat.le_refl _) _).alloc (by simp) _
open Go.RowKit Go.Lib Prp Vbi
def putB (k n : Int) (s v : ByteArray) : Bool :=
  if k = 1 then decide (n = 0 ∨ n = 1) else if k = 2 then decide (0 ≤ n ∧ n < 65536) else if k = 3 then decide (0 ≤ n ∧ n < 4294967296) else if k = 4 then decide (0 ≤ n ∧ n < 268435456)
  else if k = 5 then textB s else if k = 6 then binB s else textB s && textB v
def Wrong (w : World) (e : Ending) (w' : World) : Prop := ∃ (S : ByteArray) (E : Int), e = .returned (.tuple #[.string S, .int .i64 E]) ∧ E ≠ 0 ∧ Below w.heap.size w w'
theorem ne_true {a b : Int} (h : a ≠ b) : (a != b) = true := by rw [bne_iff_ne]; exact h
theorem Text_yes (s A : ByteArray) (w : World) (hm : s.size ≤ 9223372036854775807) (h : textB s = true) (hA : strOfNums (fixZ 2 s.size) ++ s = A) :
    Calls Tryz.prog 108 #[.string s] w fun e w' => e = .returned (.tuple #[.string A, .int .i64 0]) ∧ Below w.heap.size w w' := by
  unfold textB at h
  have h0 := of_decide_eq_true h
  refine Text_is s A 0 w hm ?_ h0
  rcases lo_cases true s with ⟨_, _, e⟩ | ⟨e, _⟩
  · exact e.trans hA
  · exact absurd h0 e
theorem Text_no (s : ByteArray) (w : World) (hm : s.size ≤ 9223372036854775807) (h : textB s = false) :
    Calls Tryz.prog 108 #[.string s] w fun e w' => ∃ E : Int, e = .returned (.tuple #[.string ⟨#[]⟩, .int .i64 E]) ∧ E ≠ 0 ∧ Below w.heap.size w w' := by
  unfold textB at h
  have h0 := of_decide_eq_false h
  rcases lo_cases true s with ⟨e, _, _⟩ | ⟨_, e⟩
  · exact absurd e h0
  · exact (Text_is s _ _ w hm e rfl).mono fun _ _ ⟨h1, h2⟩ => ⟨_, h1, h0, h2⟩
theorem text_size {s : ByteArray} (h : textB s = true) : s.size ≤ 1024 := by
  unfold textB at h
  exact loErr_zero (of_decide_eq_true h)
theorem size_2 (s : ByteArray) : (strOfNums (fixZ 2 s.size) ++ s).size = 2 + s.size := by rw [ByteArray.size_append, fix2_size]
theorem putPair_good (s v S : ByteArray) (w : World) (h1 : textB s = true) (h2 : textB v = true)
    (hS : (strOfNums (fixZ 2 s.size) ++ s) ++ (strOfNums (fixZ 2 v.size) ++ v) = S) :
    Calls Tryz.prog 177 #[.agg #[.string s, .string v]] w fun e w' => e = .returned (.tuple #[.string S, .int .i64 0]) ∧ Below w.heap.size w w' := by
  have z1 := text_size h1
  have z2 := text_size h2
  obtain ⟨A, hA⟩ : ∃ A, strOfNums (fixZ 2 s.size) ++ s = A := ⟨_, rfl⟩
  obtain ⟨B, hB⟩ : ∃ B, strOfNums (fixZ 2 v.size) ++ v = B := ⟨_, rfl⟩
  have HA := Lib.hid (fun W => Text_yes s A W (by omega) h1 hA)
  have HB := Lib.hid (fun W => Text_yes v B W (by omega) h2 hB)
  have hAz : A.size ≤ 1026 := by rw [← hA, size_2]; omega
  have hBz : B.size ≤ 1026 := by rw [← hB, size_2]; omega
  rw [hA, hB] at hS
  have HS := Lib.hid hS
  clear h1 h2 hA hB hS
  go_enter Tryz.func177, Tryz.ntmps177
  go_wp2_with fail
  refine (HA.out _).mono ?_
  rintro e w1 ⟨rfl, hb1⟩
  have q1 : w1.cell? ⟨w.heap.size, 1, none⟩ = some (.string v) := ((Box.new w _ _).below hb1).cell 1
  have HX1 := Lib.hid (((Below.refl w.heap.size w).alloc (Nat.le_refl _) (.cells #[.string s, .string v] 199)).trans (hb1.mono (by simp)))
  clear hb1 HA
  go_wp2_with fail
  refine (HB.out _).mono ?_
  rintro e w2 ⟨rfl, hb2⟩
  have HX2 := Lib.hid (HX1.out.trans (hb2.mono HX1.out.size))
  clear hb2 HB q1
  go_wp2_with fail
  go_ret2
  exact ⟨by rw [← HS.out]; rfl, HX2.out⟩
theorem putPair_bad (s v : ByteArray) (w : World) (hs : s.size ≤ 9223372036854775807) (hv : v.size ≤ 9223372036854775807) (h : (textB s && textB v) = false) :
    Calls Tryz.prog 177 #[.agg #[.string s, .string v]] w (Wrong w) := by
  cases h1 : textB s with
  | false =>
    have HA := Lib.hid (fun W => Text_no s W hs h1)
    clear h h1
    go_enter Tryz.func177, Tryz.ntmps177
    go_wp2_with fail
    refine (HA.out _).mono ?_
    rintro e w1 ⟨E, rfl, hE, hb1⟩
    have HX1 := Lib.hid (((Below.refl w.heap.size w).alloc (Nat.le_refl _) (.cells #[.string s, .string v] 199)).trans (hb1.mono (by simp)))
    have hb := ne_true hE
    have HE := Lib.hid hE
    clear hb1 HA hE
    go_wp2_with fail
    go_ret2
    exact ⟨_, E, rfl, HE.out, HX1.out⟩
  | true =>
    have h2 : textB v = false := by rw [h1, Bool.true_and] at h; exact h
    have z1 := text_size h1
    obtain ⟨A, hA⟩ : ∃ A, strOfNums (fixZ 2 s.size) ++ s = A := ⟨_, rfl⟩
    have HA := Lib.hid (fun W => Text_yes s A W hs h1 hA)
    have HB := Lib.hid (fun W => Text_no v W hv h2)
    clear h h1 h2 hA
    go_enter Tryz.func177, Tryz.ntmps177
    go_wp2_with fail
    refine (HA.out _).mono ?_
    rintro e w1 ⟨rfl, hb1⟩
    have q1 : w1.cell? ⟨w.heap.size, 1, none⟩ = some (.string v) := ((Box.new w _ _).below hb1).cell 1
    have HX1 := Lib.hid (((Below.refl w.heap.size w).alloc (Nat.le_refl _) (.cells #[.string s, .string v] 199)).trans (hb1.mono (by simp)))
    clear hb1 HA
    go_wp2_with fail
    refine (HB.out _).mono ?_
    rintro e w2 ⟨E, rfl, hE, hb2⟩
    have HX2 := Lib.hid (HX1.out.trans (hb2.mono HX1.out.size))
    have hb := ne_true hE
    have HE := Lib.hid hE
    clear hb2 HB q1 hE
    go_wp2_with fail
    go_ret2
    exact ⟨_, E, rfl, HE.out, HX2.out⟩
theorem conv_byte (z : Int) (w : World) : (convert 70 9 (.slice (some ⟨w.heap.size, 0, none⟩) 1 1)).run Tryz.prog (w.alloc (.cells #[.int .u8 z] 5)) = .ok (.string (strOfNums [z])) (w.alloc (.cells #[.int .u8 z] 5)) := by
  have hown : (w.alloc (.cells #[.int .u8 z] 5)).ownsRow w.heap.size 5 1 (.slice (some ⟨w.heap.size, 0, none⟩) 1 1) ([z] : List Int).length (([z] : List Int).map (Value.int .u8)) :=
    ⟨rfl, .inr ⟨w.heap.size, 1, #[.int .u8 z], rfl, Nat.le_refl _, heap_alloc_new w _, Nat.le_refl _, by unfold maxLen; omega, rfl, rfl⟩⟩
  exact conv_bytes hown
theorem put_1 (n : Int) (S : ByteArray) (w : World) (h : n = 0 ∨ n = 1) (hS : strOfNums [n] = S) :
    Calls Tryz.prog 164 #[.int .i64 1, .iface 3 (.int .i64 n)] w fun e w' => e = .returned (.tuple #[.string S, .int .i64 0]) ∧ Below w.heap.size w w' := by
  have HS := Lib.hid hS
  clear hS
  have a1 := to_i
  have hcv := conv_byte
  rcases h with rfl | rfl <;>
  · go_enter Tryz.func164, Tryz.ntmps164
    go_wp2
    go_ret2
    exact ⟨by rw [← HS.out]; rfl, (Below.refl _ _).alloc (Nat.le_refl _) _⟩
theorem put_2 (n : Int) (S : ByteArray) (E : Int) (w : World) (h1 : n ≤ 9223372036854775807) (hS : fixStr 2 n = S) (hE : fixErr 2 n = E) :
    Calls Tryz.prog 164 #[.int .i64 2, .iface 3 (.int .i64 n)] w fun e w' => e = .returned (.tuple #[.string S, .int .i64 E]) ∧ Below w.heap.size w w' := by
  have H := Lib.hid (fun W => Two_is n S E W h1 hS hE)
  clear hS hE
  have a1 := to_i
  go_enter Tryz.func164, Tryz.ntmps164
  go_wp2_with fail
  refine (H.out _).mono ?_
  rintro e w1 ⟨rfl, hb1⟩
  have HX := Lib.hid hb1
  clear hb1
  go_wp2_with fail
  go_ret2
  exact ⟨rfl, HX.out⟩
theorem put_3 (n : Int) (S : ByteArray) (E : Int) (w : World) (h1 : n ≤ 9223372036854775807) (hS : fixStr 4 n = S) (hE : fixErr 4 n = E) :
    Calls Tryz.prog 164 #[.int .i64 3, .iface 3 (.int .i64 n)] w fun e w' => e = .returned (.tuple #[.string S, .int .i64 E]) ∧ Below w.heap.size w w' := by
  have H := Lib.hid (fun W => Four_is n S E W h1 hS hE)
  clear hS hE
  have a1 := to_i
  go_enter Tryz.func164, Tryz.ntmps164
  go_wp2_with fail
  refine (H.out _).mono ?_
  rintro e w1 ⟨rfl, hb1⟩
  have HX := Lib.hid hb1
  clear hb1
  go_wp2_with fail
  go_ret2
  exact ⟨rfl, HX.out⟩
theorem put_4 (n : Int) (S : ByteArray) (E : Int) (w : World) (hS : numStr n = S) (hE : numErr n = E) :
    Calls Tryz.prog 164 #[.int .i64 4, .iface 3 (.int .i64 n)] w fun e w' => e = .returned (.tuple #[.string S, .int .i64 E]) ∧ Below w.heap.size w w' := by
  have H := Lib.hid (fun W => Num_is n S E W hS hE)
  clear hS hE
  have a1 := to_i
  go_enter Tryz.func164, Tryz.ntmps164
  go_wp2_with fail
  refine (H.out _).mono ?_
  rintro e w1 ⟨rfl, hb1⟩
  have HX := Lib.hid hb1
  clear hb1
  go_wp2_with fail
  go_ret2
  exact ⟨rfl, HX.out⟩
theorem put_5 (s S : ByteArray) (E : Int) (w : World) (h1 : s.size ≤ 9223372036854775807) (hS : loStr true s = S) (hE : loErr true s = E) :
    Calls Tryz.prog 164 #[.int .i64 5, .iface 9 (.string s)] w fun e w' => e = .returned (.tuple #[.string S, .int .i64 E]) ∧ Below w.heap.size w w' := by
  have H := Lib.hid (fun W => Text_is s S E W h1 hS hE)
  clear hS hE
  have a1 := to_s
  go_enter Tryz.func164, Tryz.ntmps164
  go_wp2_with fail
  refine (H.out _).mono ?_
  rintro e w1 ⟨rfl, hb1⟩
  have HX := Lib.hid hb1
  clear hb1
  go_wp2_with fail
  go_ret2
  exact ⟨rfl, HX.out⟩
theorem put_6 (s S : ByteArray) (E : Int) (w : World) (hS : binStr s = S) (hE : binErr s = E) :
    Calls Tryz.prog 164 #[.int .i64 6, .iface 9 (.string s)] w fun e w' => e = .returned (.tuple #[.string S, .int .i64 E]) ∧ Below w.heap.size w w' := by
  have H := Lib.hid (fun W => Bin_is s S E W hS hE)
  clear hS hE
  have a1 := to_s
  go_enter Tryz.func164, Tryz.ntmps164
  go_wp2_with fail
  refine (H.out _).mono ?_
  rintro e w1 ⟨rfl, hb1⟩
  have HX := Lib.hid hb1
  clear hb1
  go_wp2_with fail
  go_ret2
  exact ⟨rfl, HX.out⟩
theorem put_7 (s v S : ByteArray) (w : World) (h1 : textB s = true) (h2 : textB v = true) (hS : (strOfNums (fixZ 2 s.size) ++ s) ++ (strOfNums (fixZ 2 v.size) ++ v) = S) :
    Calls Tryz.prog 164 #[.int .i64 7, .iface 199 (.agg #[.string s, .string v])] w fun e w' => e = .returned (.tuple #[.string S, .int .i64 0]) ∧ Below w.heap.size w w' := by
  have H := Lib.hid (fun W => putPair_good s v S W h1 h2 hS)
  clear hS h1 h2
  have a1 := to_p
  go_enter Tryz.func164, Tryz.ntmps164
  go_wp2_with fail
  refine (H.out _).mono ?_
  rintro e w1 ⟨rfl, hb1⟩
  have HX := Lib.hid hb1
  clear hb1
  go_wp2_with fail
  go_ret2
  exact ⟨rfl, HX.out⟩
theorem put_7bad (s v : ByteArray) (w : World) (hs : s.size ≤ 9223372036854775807) (hv : v.size ≤ 9223372036854775807) (h : (textB s && textB v) = false) :
    Calls Tryz.prog 164 #[.int .i64 7, .iface 199 (.agg #[.string s, .string v])] w (Wrong w) := by
  have H := Lib.hid (fun W => putPair_bad s v W hs hv h)
  clear hs hv h
  have a1 := to_p
  go_enter Tryz.func164, Tryz.ntmps164
  go_wp2_with fail
  refine (H.out _).mono ?_
  rintro e w1 ⟨T, E, rfl, hE, hb1⟩
  have HX := Lib.hid hb1
  have HE := Lib.hid hE
  clear hb1 hE
  go_wp2_with fail
  go_ret2
  exact ⟨T, E, rfl, HE.out, HX.out⟩
open Go.RowKit Go.Lib Prp
theorem toList_eq_iff (a b : ByteArray) : a.toList = b.toList ↔ a = b := by
  constructor
  · intro h
    rw [ByteArray.toList_eq, ByteArray.toList_eq] at h
    exact ByteArray.ext (Array.toList_inj.1 (by simpa using h))
  · rintro rfl; rfl
def diffB (a b : P) : Bool := decide (¬ (a.id = b.id ∧ a.n = b.n ∧ a.s = b.s ∧ a.v = b.v))
theorem diff_self (a : P) : diffB a a = false := by unfold diffB; simp
theorem neq_props (i n i' n' : Int) (s v s' v' : ByteArray) (w : World) :
    (binOp .neq 103 (.agg #[.int .i64 i, .int .i64 n, .string s, .string v]) (.agg #[.int .i64 i', .int .i64 n', .string s', .string v'])).run Tryz.prog w = .ok (.bool (diffB ⟨i, n, s, v⟩ ⟨i', n', s', v'⟩)) w := by
  rw [run_neq_struct]
  unfold diffB
  by_cases h1 : i = i' <;> by_cases h2 : n = n' <;> by_cases h3 : s = s' <;> by_cases h4 : v = v' <;> (try go_simp)
  all_goals simp [h3, h4, toList_eq_iff]
theorem EqProps_same (l : List P) (A A' : Option Addr) (c c' B B' : Nat) (w : World) (hm : l.length ≤ 9223372036854775807) (h : PropsAt w B A l) (h' : PropsAt w B' A' l) :
    Calls Tryz.prog 59 #[.slice A l.length c, .slice A' l.length c'] w fun e w' => e = .returned (.bool true) ∧ ∃ n, w' = w.drewN n := by
  have H := Lib.hid h
  have H' := Lib.hid h'
  clear h h'
  go_enter Tryz.func59, Tryz.ntmps59
  go_wp2_with fail
  go_loopw [5] (fun i wr => ∃ k n : Nat, k ≤ l.length ∧ i = .int .i64 (k : Int) ∧ wr = w.drewN n) (fun i _ => l.length - (RowKit.intOf i).toNat)
  case atStart => exact ⟨0, 0, Nat.zero_le _, rfl, rfl⟩
  case round =>
    obtain ⟨k, n, hk, rfl, rfl⟩ := hrel
    by_cases hlt : k < l.length
    · obtain ⟨b, o, rfl, _, hc⟩ := H.out.some_ (by omega)
      obtain ⟨b', o', rfl, _, hc'⟩ := H'.out.some_ (by omega)
      have h1 := hc k hlt
      have h2 := hc' k hlt
      clear hc hc' H H'
      obtain ⟨i, x, s, v⟩ := l[k]
      obtain ⟨c0, c1, c2, c3⟩ := h1
      obtain ⟨d0, d1, d2, d3⟩ := h2
      have hkI : (k : Int) < (l.length : Int) := by omega
      have hne := neq_props i x i x s v s v
      rw [diff_self] at hne
      go_wp2
      go_quiet (fail)
      go_wp2
      go_roundw
      case rel => exact ⟨k + 1, _, hlt, by go_num, rfl⟩
      case measure => simp [RowKit.intOf]; omega
    · go_wp2
      go_ret
      exact ⟨rfl, n, rfl⟩
open Go.RowKit Go.Lib Prp Vbi
@[irreducible] def Keep (w : World) (g : Nat) (cs : Array Value) (W : World) : Prop := Box W g cs ∧ Below w.heap.size w W
section
variable {w W W' : World} {g : Nat} {cs : Array Value}
theorem Keep.mk (h1 : Box W g cs) (h2 : Below w.heap.size w W) : Keep w g cs W := by unfold Keep; exact ⟨h1, h2⟩
theorem Keep.out (h : Keep w g cs W) : Box W g cs ∧ Below w.heap.size w W := by unfold Keep at h; exact h
theorem Keep.below (h : Keep w g cs W) (hb : Below W.heap.size W W') : Keep w g cs W' := .mk (h.out.1.below hb) (h.out.2.trans (hb.mono h.out.2.size))
theorem Keep.drewN (h : Keep w g cs W) (n : Nat) : Keep w g cs (W.drewN n) := h.below (below_drewN (Below.refl _ _) n)
theorem Keep.new (w : World) (T : TypeId) (cs : Array Value) : Keep w w.heap.size cs (w.alloc (.cells cs T)) := .mk (.new w T cs) ((Below.refl _ _).alloc (Nat.le_refl _) _)
theorem Keep.cell (h : Keep w g cs W) (i : Nat) : W.cell? ⟨g, i, none⟩ = cs[i]? := h.out.1.cell i
end
theorem Keep.four {w W : World} {g : Nat} {a b : Int} {s v : ByteArray} (h : Keep w g #[.int .i64 a, .int .i64 b, .string s, .string v] W) :
    W.cell? ⟨g, 0, none⟩ = some (.int .i64 a) ∧ W.cell? ⟨g, 1, none⟩ = some (.int .i64 b) ∧ W.cell? ⟨g, 2, none⟩ = some (.string s) ∧ W.cell? ⟨g, 3, none⟩ = some (.string v) :=
  ⟨h.cell 0, h.cell 1, h.cell 2, h.cell 3⟩
def anyOf (k : Int) (p : P) : Value :=
  if k = 5 ∨ k = 6 then .iface 9 (.string p.s) else if k = 7 then .iface 199 (.agg #[.string p.s, .string p.v]) else .iface 3 (.int .i64 p.n)
def strip (k : Int) (p : P) : P := if k = 5 ∨ k = 6 then ⟨p.id, 0, p.s, ⟨#[]⟩⟩ else if k = 7 then ⟨p.id, 0, p.s, p.v⟩ else ⟨p.id, p.n, ⟨#[]⟩, ⟨#[]⟩⟩
theorem kind_id {id : Int} (h : kindZ id ≠ 0) : 1 ≤ id ∧ id ≤ 42 := by
  rcases kind_cases id with c | c | c | c | c | c | c | c
  all_goals first | omega | exact absurd (kind_none c) h
theorem kind_seven {k : Int} (h0 : 0 ≤ k) (h7 : k ≤ 7) (h : k ≠ 0) : k = 1 ∨ k = 2 ∨ k = 3 ∨ k = 4 ∨ k = 5 ∨ k = 6 ∨ k = 7 := by omega
theorem valueOf_is (k id n : Int) (s v : ByteArray) (X : Value) (w : World) (hX : anyOf k ⟨id, n, s, v⟩ = X) :
    Calls Tryz.prog 163 #[.int .i64 k, .agg #[.int .i64 id, .int .i64 n, .string s, .string v]] w fun e w' => e = .returned X ∧ Below w.heap.size w w' := by
  subst hX
  unfold anyOf
  by_cases h5 : k = 5 ∨ k = 6
  · rw [if_pos h5]; exact valueOf_str k id n s v w h5
  · rw [if_neg h5]
    by_cases h7 : k = 7
    · subst h7; rw [if_pos rfl]; exact valueOf_two id n s v w
    · rw [if_neg h7]; exact valueOf_num k id n s v w (by omega)
theorem propOf_is (k id n i' n' : Int) (s v s' v' : ByteArray) (X : Value) (w : World) (hX : anyOf k ⟨id, n, s, v⟩ = X) (hq : strip k ⟨id, n, s, v⟩ = ⟨i', n', s', v'⟩) :
    Calls Tryz.prog 165 #[.int .i64 id, X] w fun e w' => e = .returned (.agg #[.int .i64 i', .int .i64 n', .string s', .string v']) ∧ Below w.heap.size w w' := by
  subst hX
  unfold anyOf
  unfold strip at hq
  by_cases h5 : k = 5 ∨ k = 6
  · rw [if_pos h5]; rw [if_pos h5] at hq; cases hq; exact propOf_str id s w
  · rw [if_neg h5]; rw [if_neg h5] at hq
    by_cases h7 : k = 7
    · subst h7; rw [if_pos rfl]; rw [if_pos rfl] at hq; cases hq; exact propOf_two id s v w
    · rw [if_neg h7]; rw [if_neg h7] at hq; cases hq; exact propOf_num id n w
theorem fix_yes {wd : Nat} {x : Int} (h0 : 0 ≤ x) (h1 : x < 256 ^ wd) : fixErr wd x = 0 ∧ fixStr wd x = strOfNums (fixZ wd x.toNat) := by
  rcases fix_cases wd x with ⟨_, _, e1, e2⟩ | ⟨_, _, _⟩
  · exact ⟨e1, e2⟩
  · omega
theorem fix_no {wd : Nat} {x : Int} (h : ¬ (0 ≤ x ∧ x < 256 ^ wd)) : fixErr wd x = 2 := by
  rcases fix_cases wd x with ⟨_, _, _, _⟩ | ⟨_, e1, e2⟩
  · omega
  · exact e1
theorem put_yes (k id n : Int) (s v S : ByteArray) (X : Value) (w : World) (hk0 : 0 ≤ k) (hk7 : k ≤ 7) (hk : k ≠ 0) (hn : n ≤ 9223372036854775807) (hs : s.size ≤ 9223372036854775807) (hX : anyOf k ⟨id, n, s, v⟩ = X) (hp : putB k n s v = true) (hS : valStr k ⟨id, n, s, v⟩ = S) :
    Calls Tryz.prog 164 #[.int .i64 k, X] w fun e w' => e = .returned (.tuple #[.string S, .int .i64 0]) ∧ Below w.heap.size w w' := by
  subst hX
  rcases kind_seven hk0 hk7 hk with rfl | rfl | rfl | rfl | rfl | rfl | rfl
  · exact put_1 n S w (of_decide_eq_true hp) hS
  · have h := of_decide_eq_true hp
    exact put_2 n S 0 w hn ((fix_yes h.1 h.2).2.trans hS) (fix_yes h.1 h.2).1
  · have h := of_decide_eq_true hp
    exact put_3 n S 0 w hn ((fix_yes h.1 h.2).2.trans hS) (fix_yes h.1 h.2).1
  · have h := of_decide_eq_true hp
    rcases numErr_cases n with ⟨_, _, e1, e2⟩ | ⟨_, _, _⟩
    · exact put_4 n S 0 w (e2.trans hS) e1
    · omega
  · have h : textB s = true := hp
    unfold textB at h
    have h := of_decide_eq_true h
    refine put_5 s S 0 w hs ?_ h
    rcases lo_cases true s with ⟨_, _, e⟩ | ⟨e, _⟩
    · exact e.trans hS
    · exact absurd h e
  · have h : binB s = true := hp
    unfold binB at h
    have h := of_decide_eq_true h
    refine put_6 s S 0 w ?_ ?_
    · unfold binStr; rw [if_neg (by omega)]; exact hS
    · unfold binErr; rw [if_neg (by omega)]
  · have h : (textB s && textB v) = true := hp
    rw [Bool.and_eq_true] at h
    exact put_7 s v S w h.1 h.2 hS
theorem put_no (k id n : Int) (s v : ByteArray) (X : Value) (w : World) (hk0 : 0 ≤ k) (hk7 : k ≤ 7) (hk : k ≠ 0) (hk1 : k = 1 → n = 0 ∨ n = 1) (hn : n ≤ 9223372036854775807) (hs : s.size ≤ 9223372036854775807) (hv : v.size ≤ 9223372036854775807) (hX : anyOf k ⟨id, n, s, v⟩ = X) (hp : putB k n s v = false) :
    Calls Tryz.prog 164 #[.int .i64 k, X] w (Wrong w) := by
  subst hX
  rcases kind_seven hk0 hk7 hk with rfl | rfl | rfl | rfl | rfl | rfl | rfl
  · exact absurd (hk1 rfl) (of_decide_eq_false hp)
  · exact (put_2 n _ _ w hn rfl (fix_no (of_decide_eq_false hp))).mono fun _ _ ⟨h1, h2⟩ => ⟨_, 2, h1, by decide, h2⟩
  · exact (put_3 n _ _ w hn rfl (fix_no (of_decide_eq_false hp))).mono fun _ _ ⟨h1, h2⟩ => ⟨_, 2, h1, by decide, h2⟩
  · have h := of_decide_eq_false hp
    rcases numErr_cases n with ⟨_, _, _, _⟩ | ⟨_, e1, e2⟩
    · omega
    · exact (put_4 n _ _ w rfl e1).mono fun _ _ ⟨h1, h2⟩ => ⟨_, 2, h1, by decide, h2⟩
  · have h : textB s = false := hp
    unfold textB at h
    have h := of_decide_eq_false h
    exact (put_5 s _ _ w hs rfl rfl).mono fun _ _ ⟨h1, h2⟩ => ⟨_, _, h1, h, h2⟩
  · have h : binB s = false := hp
    unfold binB at h
    have h := of_decide_eq_false h
    refine (put_6 s _ 2 w rfl ?_).mono fun _ _ ⟨h1, h2⟩ => ⟨_, 2, h1, by decide, h2⟩
    unfold binErr; rw [if_pos (by omega)]
  · exact put_7bad s v w hs hv hp
theorem vp_num (A : Prop) [Decidable A] (id n : Int) (s v : ByteArray) : decide (A ∧ s = ⟨#[]⟩ ∧ v = ⟨#[]⟩) = (decide A && !diffB ⟨id, n, ⟨#[]⟩, ⟨#[]⟩⟩ ⟨id, n, s, v⟩) := by
  unfold diffB
  have e1 : ((⟨#[]⟩ : ByteArray) = s) = (s = ⟨#[]⟩) := propext eq_comm
  have e2 : ((⟨#[]⟩ : ByteArray) = v) = (v = ⟨#[]⟩) := propext eq_comm
  simp only [e1, e2]
  by_cases hA : A <;> by_cases hs : s = ⟨#[]⟩ <;> by_cases hv : v = ⟨#[]⟩ <;> simp [hA, hs, hv]
theorem vp_str (b : Bool) (id n : Int) (s v : ByteArray) : decide (n = 0 ∧ b = true ∧ v = ⟨#[]⟩) = (b && !diffB ⟨id, 0, s, ⟨#[]⟩⟩ ⟨id, n, s, v⟩) := by
  unfold diffB
  have e1 : ((0 : Int) = n) = (n = 0) := propext eq_comm
  have e2 : ((⟨#[]⟩ : ByteArray) = v) = (v = ⟨#[]⟩) := propext eq_comm
  simp only [e1, e2]
  cases b <;> by_cases hn : n = 0 <;> by_cases hv : v = ⟨#[]⟩ <;> simp [hn, hv]
theorem vp_two (b c : Bool) (id n : Int) (s v : ByteArray) : decide (n = 0 ∧ b = true ∧ c = true) = ((b && c) && !diffB ⟨id, 0, s, v⟩ ⟨id, n, s, v⟩) := by
  unfold diffB
  have e1 : ((0 : Int) = n) = (n = 0) := propext eq_comm
  simp only [e1]
  cases b <;> cases c <;> by_cases hn : n = 0 <;> simp [hn]
theorem val_put (k id n : Int) (s v : ByteArray) (hk0 : 0 ≤ k) (hk7 : k ≤ 7) (hk : k ≠ 0) : valB k ⟨id, n, s, v⟩ = (putB k n s v && !diffB (strip k ⟨id, n, s, v⟩) ⟨id, n, s, v⟩) := by
  rcases kind_seven hk0 hk7 hk with rfl | rfl | rfl | rfl | rfl | rfl | rfl
  · exact vp_num _ id n s v
  · exact vp_num _ id n s v
  · exact vp_num _ id n s v
  · exact vp_num _ id n s v
  · exact vp_str (textB s) id n s v
  · exact vp_str (binB s) id n s v
  · exact vp_two (textB s) (textB v) id n s v
theorem val_size {k id n : Int} {s v : ByteArray} (hk0 : 0 ≤ k) (hk7 : k ≤ 7) (hk : k ≠ 0) (h : putB k n s v = true) : (valStr k ⟨id, n, s, v⟩).size ≤ 2052 := by
  rcases kind_seven hk0 hk7 hk with rfl | rfl | rfl | rfl | rfl | rfl | rfl
  · show (strOfNums [n]).size ≤ _; rw [strOfNums_size]; simp
  · show (strOfNums (fixZ 2 n.toNat)).size ≤ _; rw [strOfNums_size, fixZ_len]; omega
  · show (strOfNums (fixZ 4 n.toNat)).size ≤ _; rw [strOfNums_size, fixZ_len]; omega
  · show (strOfNums (numZ n.toNat)).size ≤ _
    have h := of_decide_eq_true h
    rw [strOfNums_size, numZ_len (by omega)]
    have := numLen_le n.toNat
    omega
  · show (strOfNums (fixZ 2 s.size) ++ s).size ≤ _
    have h : textB s = true := h
    rw [size_2]; have := text_size h; omega
  · show (strOfNums (fixZ 2 s.size) ++ s).size ≤ _
    have h : binB s = true := h
    unfold binB at h
    have h := of_decide_eq_true h
    rw [size_2]; omega
  · show ((strOfNums (fixZ 2 s.size) ++ s) ++ (strOfNums (fixZ 2 v.size) ++ v)).size ≤ _
    have h : (textB s && textB v) = true := h
    rw [Bool.and_eq_true] at h
    rw [ByteArray.size_append, size_2, size_2]
    have := text_size h.1
    have := text_size h.2
    omega
theorem putOne_wrong (k id n : Int) (s v : ByteArray) (w : World) (hk : kindZ id = k) (hk0 : k ≠ 0) (hk1 : k = 1 → n = 0 ∨ n = 1) (hn : n ≤ 9223372036854775807) (hs : s.size ≤ 9223372036854775807) (hv : v.size ≤ 9223372036854775807) (hp : putB k n s v = false) :
    Calls Tryz.prog 138 #[.agg #[.int .i64 id, .int .i64 n, .string s, .string v]] w fun e w' => e = .returned (.tuple #[.string ⟨#[]⟩, .int .i64 1]) ∧ Below w.heap.size w w' := by
  have hr := kind_range id
  rw [hk] at hr
  obtain ⟨X, hX⟩ : ∃ X, anyOf k ⟨id, n, s, v⟩ = X := ⟨_, rfl⟩
  have HK := Lib.hid (fun W => Kind_is id k _ W hk rfl)
  have HV := Lib.hid (fun W => valueOf_is k id n s v X W hX)
  have HP := Lib.hid (fun W => put_no k id n s v X W hr.1 hr.2 hk0 hk1 hn hs hv hX hp)
  clear hk hk0 hk1 hX hp hr
  go_enter Tryz.func138, Tryz.ntmps138
  go_wp2_with fail
  have HB := Lib.hid (Keep.new w 103 #[.int .i64 id, .int .i64 n, .string s, .string v])
  generalize w.alloc (.cells #[.int .i64 id, .int .i64 n, .string s, .string v] 103) = w0 at HB ⊢
  refine (HK.out _).mono ?_
  rintro e w' ⟨rfl, rfl⟩
  obtain ⟨c0, c1, c2, c3⟩ := HB.out.four
  go_wp2_with fail
  refine (HV.out _).mono ?_
  rintro e w1 ⟨rfl, hb1⟩
  have HB1 := Lib.hid (HB.out.below hb1)
  clear c0 c1 c2 c3 hb1 HB HV
  go_wp2_with fail
  refine (HP.out _).mono ?_
  rintro e w2 ⟨S, E, rfl, hE, hb2⟩
  have HB2 := Lib.hid (HB1.out.below hb2)
  have hE2 := ne_true hE
  clear hb2 HB1 HP hE
  go_wp2_with fail
  go_quiet (fail)
  go_wp2_with fail
  go_ret2
  exact ⟨rfl, below_drewN HB2.out.out.2 _⟩
end Go.Proofs.YtiancngpknnkaaaGreat
