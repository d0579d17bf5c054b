/- Package prop: the bytes of one property. -/
import Derived.Test.YthjlbdplhhgcpaaPropPut
import Derived.Test.YthjlbdplhhgcpaaPropEq
import Derived.Deep.RegionHeld3
namespace Go.Proofs.Ythjlbdplhhgcpaa
open Go.RowKit Go.Lib Prp Vbi

/-- A block of the call's own with known cells, and what was there ahead of the call. -/
@[irreducible] def Keep (w : World) (g : Nat) (cs : Array Value) (W : World) : Prop := Box W g cs ∧ Below w.heap.size w W
section
variable {w W W' : World} {g : Nat} {cs : Array Value}
theorem Keep.mk (h1 : Box W g cs) (h2 : Below w.heap.size w W) : Keep w g cs W := by unfold Keep; exact ⟨h1, h2⟩
theorem Keep.out (h : Keep w g cs W) : Box W g cs ∧ Below w.heap.size w W := by unfold Keep at h; exact h
theorem Keep.below (h : Keep w g cs W) (hb : Below W.heap.size W W') : Keep w g cs W' := .mk (h.out.1.below hb) (h.out.2.trans (hb.mono h.out.2.size))
theorem Keep.drewN (h : Keep w g cs W) (n : Nat) : Keep w g cs (W.drewN n) := h.below (below_drewN (Below.refl _ _) n)
theorem Keep.new (w : World) (T : TypeId) (cs : Array Value) : Keep w w.heap.size cs (w.alloc (.cells cs T)) := .mk (.new w T cs) ((Below.refl _ _).alloc (Nat.le_refl _) _)
theorem Keep.cell (h : Keep w g cs W) (i : Nat) : W.cell? ⟨g, i, none⟩ = cs[i]? := h.out.1.cell i
end
/-- The four cells of a property's block. -/
theorem Keep.four {w W : World} {g : Nat} {a b : Int} {s v : ByteArray} (h : Keep w g #[.int .i64 a, .int .i64 b, .string s, .string v] W) :
    W.cell? ⟨g, 0, none⟩ = some (.int .i64 a) ∧ W.cell? ⟨g, 1, none⟩ = some (.int .i64 b) ∧ W.cell? ⟨g, 2, none⟩ = some (.string s) ∧ W.cell? ⟨g, 3, none⟩ = some (.string v) :=
  ⟨h.cell 0, h.cell 1, h.cell 2, h.cell 3⟩

/-- The value, as any; what is left of the property. -/
def anyOf (k : Int) (p : P) : Value :=
  if k = 5 ∨ k = 6 then .iface 9 (.string p.s) else if k = 7 then .iface 93 (.agg #[.string p.s, .string p.v]) else .iface 3 (.int .i64 p.n)
def strip (k : Int) (p : P) : P := if k = 5 ∨ k = 6 then ⟨p.id, 0, p.s, ⟨#[]⟩⟩ else if k = 7 then ⟨p.id, 0, p.s, p.v⟩ else ⟨p.id, p.n, ⟨#[]⟩, ⟨#[]⟩⟩
theorem kind_id {id : Int} (h : kindZ id ≠ 0) : 1 ≤ id ∧ id ≤ 42 := by
  rcases kind_cases id with c | c | c | c | c | c | c | c
  all_goals first | omega | exact absurd (kind_none c) h
theorem kind_seven {k : Int} (h0 : 0 ≤ k) (h7 : k ≤ 7) (h : k ≠ 0) : k = 1 ∨ k = 2 ∨ k = 3 ∨ k = 4 ∨ k = 5 ∨ k = 6 ∨ k = 7 := by omega

theorem valueOf_is (k id n : Int) (s v : ByteArray) (X : Value) (w : World) (hX : anyOf k ⟨id, n, s, v⟩ = X) :
    Calls Try.prog 47 #[.int .i64 k, .agg #[.int .i64 id, .int .i64 n, .string s, .string v]] w fun e w' => e = .returned X ∧ Below w.heap.size w w' := by
  subst hX
  unfold anyOf
  by_cases h5 : k = 5 ∨ k = 6
  · rw [if_pos h5]; exact valueOf_str k id n s v w h5
  · rw [if_neg h5]
    by_cases h7 : k = 7
    · subst h7; rw [if_pos rfl]; exact valueOf_two id n s v w
    · rw [if_neg h7]; exact valueOf_num k id n s v w (by omega)
theorem propOf_is (k id n i' n' : Int) (s v s' v' : ByteArray) (X : Value) (w : World) (hX : anyOf k ⟨id, n, s, v⟩ = X) (hq : strip k ⟨id, n, s, v⟩ = ⟨i', n', s', v'⟩) :
    Calls Try.prog 49 #[.int .i64 id, X] w fun e w' => e = .returned (.agg #[.int .i64 i', .int .i64 n', .string s', .string v']) ∧ Below w.heap.size w w' := by
  subst hX
  unfold anyOf
  unfold strip at hq
  by_cases h5 : k = 5 ∨ k = 6
  · rw [if_pos h5]; rw [if_pos h5] at hq; cases hq; exact propOf_str id s w
  · rw [if_neg h5]; rw [if_neg h5] at hq
    by_cases h7 : k = 7
    · subst h7; rw [if_pos rfl]; rw [if_pos rfl] at hq; cases hq; exact propOf_two id s v w
    · rw [if_neg h7]; rw [if_neg h7] at hq; cases hq; exact propOf_num id n w
theorem fix_yes {wd : Nat} {x : Int} (h0 : 0 ≤ x) (h1 : x < 256 ^ wd) : fixErr wd x = 0 ∧ fixStr wd x = strOfNums (fixZ wd x.toNat) := by
  rcases fix_cases wd x with ⟨_, _, e1, e2⟩ | ⟨_, _, _⟩
  · exact ⟨e1, e2⟩
  · omega
theorem fix_no {wd : Nat} {x : Int} (h : ¬ (0 ≤ x ∧ x < 256 ^ wd)) : fixErr wd x = 2 := by
  rcases fix_cases wd x with ⟨_, _, _, _⟩ | ⟨_, e1, e2⟩
  · omega
  · exact e1
theorem put_yes (k id n : Int) (s v S : ByteArray) (X : Value) (w : World) (hk0 : 0 ≤ k) (hk7 : k ≤ 7) (hk : k ≠ 0) (hn : n ≤ 9223372036854775807) (hs : s.size ≤ 9223372036854775807) (hX : anyOf k ⟨id, n, s, v⟩ = X) (hp : putB k n s v = true) (hS : valStr k ⟨id, n, s, v⟩ = S) :
    Calls Try.prog 48 #[.int .i64 k, X] w fun e w' => e = .returned (.tuple #[.string S, .int .i64 0]) ∧ Below w.heap.size w w' := by
  subst hX
  rcases kind_seven hk0 hk7 hk with rfl | rfl | rfl | rfl | rfl | rfl | rfl
  · exact put_1 n S w (of_decide_eq_true hp) hS
  · have h := of_decide_eq_true hp
    exact put_2 n S 0 w hn ((fix_yes h.1 h.2).2.trans hS) (fix_yes h.1 h.2).1
  · have h := of_decide_eq_true hp
    exact put_3 n S 0 w hn ((fix_yes h.1 h.2).2.trans hS) (fix_yes h.1 h.2).1
  · have h := of_decide_eq_true hp
    rcases numErr_cases n with ⟨_, _, e1, e2⟩ | ⟨_, _, _⟩
    · exact put_4 n S 0 w (e2.trans hS) e1
    · omega
  · have h : textB s = true := hp
    unfold textB at h
    have h := of_decide_eq_true h
    refine put_5 s S 0 w hs ?_ h
    rcases lo_cases true s with ⟨_, _, e⟩ | ⟨e, _⟩
    · exact e.trans hS
    · exact absurd h e
  · have h : binB s = true := hp
    unfold binB at h
    have h := of_decide_eq_true h
    refine put_6 s S 0 w ?_ ?_
    · unfold binStr; rw [if_neg (by omega)]; exact hS
    · unfold binErr; rw [if_neg (by omega)]
  · have h : (textB s && textB v) = true := hp
    rw [Bool.and_eq_true] at h
    exact put_7 s v S w h.1 h.2 hS
theorem put_no (k id n : Int) (s v : ByteArray) (X : Value) (w : World) (hk0 : 0 ≤ k) (hk7 : k ≤ 7) (hk : k ≠ 0) (hk1 : k = 1 → n = 0 ∨ n = 1) (hn : n ≤ 9223372036854775807) (hs : s.size ≤ 9223372036854775807) (hv : v.size ≤ 9223372036854775807) (hX : anyOf k ⟨id, n, s, v⟩ = X) (hp : putB k n s v = false) :
    Calls Try.prog 48 #[.int .i64 k, X] w (Wrong w) := by
  subst hX
  rcases kind_seven hk0 hk7 hk with rfl | rfl | rfl | rfl | rfl | rfl | rfl
  · exact absurd (hk1 rfl) (of_decide_eq_false hp)
  · exact (put_2 n _ _ w hn rfl (fix_no (of_decide_eq_false hp))).mono fun _ _ ⟨h1, h2⟩ => ⟨_, 2, h1, by decide, h2⟩
  · exact (put_3 n _ _ w hn rfl (fix_no (of_decide_eq_false hp))).mono fun _ _ ⟨h1, h2⟩ => ⟨_, 2, h1, by decide, h2⟩
  · have h := of_decide_eq_false hp
    rcases numErr_cases n with ⟨_, _, _, _⟩ | ⟨_, e1, e2⟩
    · omega
    · exact (put_4 n _ _ w rfl e1).mono fun _ _ ⟨h1, h2⟩ => ⟨_, 2, h1, by decide, h2⟩
  · have h : textB s = false := hp
    unfold textB at h
    have h := of_decide_eq_false h
    exact (put_5 s _ _ w hs rfl rfl).mono fun _ _ ⟨h1, h2⟩ => ⟨_, _, h1, h, h2⟩
  · have h : binB s = false := hp
    unfold binB at h
    have h := of_decide_eq_false h
    refine (put_6 s _ 2 w rfl ?_).mono fun _ _ ⟨h1, h2⟩ => ⟨_, 2, h1, by decide, h2⟩
    unfold binErr; rw [if_pos (by omega)]
  · exact put_7bad s v w hs hv hp
theorem vp_num (A : Prop) [Decidable A] (id n : Int) (s v : ByteArray) : decide (A ∧ s = ⟨#[]⟩ ∧ v = ⟨#[]⟩) = (decide A && !diffB ⟨id, n, ⟨#[]⟩, ⟨#[]⟩⟩ ⟨id, n, s, v⟩) := by
  unfold diffB
  have e1 : ((⟨#[]⟩ : ByteArray) = s) = (s = ⟨#[]⟩) := propext eq_comm
  have e2 : ((⟨#[]⟩ : ByteArray) = v) = (v = ⟨#[]⟩) := propext eq_comm
  simp only [e1, e2]
  by_cases hA : A <;> by_cases hs : s = ⟨#[]⟩ <;> by_cases hv : v = ⟨#[]⟩ <;> simp [hA, hs, hv]
theorem vp_str (b : Bool) (id n : Int) (s v : ByteArray) : decide (n = 0 ∧ b = true ∧ v = ⟨#[]⟩) = (b && !diffB ⟨id, 0, s, ⟨#[]⟩⟩ ⟨id, n, s, v⟩) := by
  unfold diffB
  have e1 : ((0 : Int) = n) = (n = 0) := propext eq_comm
  have e2 : ((⟨#[]⟩ : ByteArray) = v) = (v = ⟨#[]⟩) := propext eq_comm
  simp only [e1, e2]
  cases b <;> by_cases hn : n = 0 <;> by_cases hv : v = ⟨#[]⟩ <;> simp [hn, hv]
theorem vp_two (b c : Bool) (id n : Int) (s v : ByteArray) : decide (n = 0 ∧ b = true ∧ c = true) = ((b && c) && !diffB ⟨id, 0, s, v⟩ ⟨id, n, s, v⟩) := by
  unfold diffB
  have e1 : ((0 : Int) = n) = (n = 0) := propext eq_comm
  simp only [e1]
  cases b <;> cases c <;> by_cases hn : n = 0 <;> simp [hn]
theorem val_put (k id n : Int) (s v : ByteArray) (hk0 : 0 ≤ k) (hk7 : k ≤ 7) (hk : k ≠ 0) : valB k ⟨id, n, s, v⟩ = (putB k n s v && !diffB (strip k ⟨id, n, s, v⟩) ⟨id, n, s, v⟩) := by
  rcases kind_seven hk0 hk7 hk with rfl | rfl | rfl | rfl | rfl | rfl | rfl
  · exact vp_num _ id n s v
  · exact vp_num _ id n s v
  · exact vp_num _ id n s v
  · exact vp_num _ id n s v
  · exact vp_str (textB s) id n s v
  · exact vp_str (binB s) id n s v
  · exact vp_two (textB s) (textB v) id n s v
theorem val_size {k id n : Int} {s v : ByteArray} (hk0 : 0 ≤ k) (hk7 : k ≤ 7) (hk : k ≠ 0) (h : putB k n s v = true) : (valStr k ⟨id, n, s, v⟩).size ≤ 2052 := by
  rcases kind_seven hk0 hk7 hk with rfl | rfl | rfl | rfl | rfl | rfl | rfl
  · show (strOfNums [n]).size ≤ _; rw [strOfNums_size]; simp
  · show (strOfNums (fixZ 2 n.toNat)).size ≤ _; rw [strOfNums_size, fixZ_len]; omega
  · show (strOfNums (fixZ 4 n.toNat)).size ≤ _; rw [strOfNums_size, fixZ_len]; omega
  · show (strOfNums (numZ n.toNat)).size ≤ _
    have h := of_decide_eq_true h
    rw [strOfNums_size, numZ_len (by omega)]
    have := numLen_le n.toNat
    omega
  · show (strOfNums (fixZ 2 s.size) ++ s).size ≤ _
    have h : textB s = true := h
    rw [size_2]; have := text_size h; omega
  · show (strOfNums (fixZ 2 s.size) ++ s).size ≤ _
    have h : binB s = true := h
    unfold binB at h
    have h := of_decide_eq_true h
    rw [size_2]; omega
  · show ((strOfNums (fixZ 2 s.size) ++ s) ++ (strOfNums (fixZ 2 v.size) ++ v)).size ≤ _
    have h : (textB s && textB v) = true := h
    rw [Bool.and_eq_true] at h
    rw [ByteArray.size_append, size_2, size_2]
    have := text_size h.1
    have := text_size h.2
    omega

set_option maxRecDepth 100000 in
set_option maxHeartbeats 4000000 in
theorem putOne_wrong (k id n : Int) (s v : ByteArray) (w : World) (hk : kindZ id = k) (hk0 : k ≠ 0) (hk1 : k = 1 → n = 0 ∨ n = 1) (hn : n ≤ 9223372036854775807) (hs : s.size ≤ 9223372036854775807) (hv : v.size ≤ 9223372036854775807) (hp : putB k n s v = false) :
    Calls Try.prog 30 #[.agg #[.int .i64 id, .int .i64 n, .string s, .string v]] w fun e w' => e = .returned (.tuple #[.string ⟨#[]⟩, .int .i64 1]) ∧ Below w.heap.size w w' := by
  have hr := kind_range id
  rw [hk] at hr
  obtain ⟨X, hX⟩ : ∃ X, anyOf k ⟨id, n, s, v⟩ = X := ⟨_, rfl⟩
  have HK := Lib.hid (fun W => Kind_is id k _ W hk rfl)
  have HV := Lib.hid (fun W => valueOf_is k id n s v X W hX)
  have HP := Lib.hid (fun W => put_no k id n s v X W hr.1 hr.2 hk0 hk1 hn hs hv hX hp)
  clear hk hk0 hk1 hX hp hr
  go_enter Try.func30, Try.ntmps30
  go_wp2_with fail
  have HB := Lib.hid (Keep.new w 48 #[.int .i64 id, .int .i64 n, .string s, .string v])
  generalize w.alloc (.cells #[.int .i64 id, .int .i64 n, .string s, .string v] 48) = w0 at HB ⊢
  refine (HK.out _).mono ?_
  rintro e w' ⟨rfl, rfl⟩
  obtain ⟨c0, c1, c2, c3⟩ := HB.out.four
  go_wp2_with fail
  refine (HV.out _).mono ?_
  rintro e w1 ⟨rfl, hb1⟩
  have HB1 := Lib.hid (HB.out.below hb1)
  clear c0 c1 c2 c3 hb1 HB HV
  go_wp2_with fail
  refine (HP.out _).mono ?_
  rintro e w2 ⟨S, E, rfl, hE, hb2⟩
  have HB2 := Lib.hid (HB1.out.below hb2)
  have hE2 := ne_true hE
  clear hb2 HB1 HP hE
  go_wp2_with fail
  go_quiet (fail)
  go_wp2_with fail
  go_ret2
  exact ⟨rfl, below_drewN HB2.out.out.2 _⟩
end Go.Proofs.Ythjlbdplhhgcpaa
