/- Package prop: the bytes of one property, where package vbi writes its value. -/
import Derived.Test.YthjlbdplhhgcpaaPropPutOne
namespace Go.Proofs.Ythjlbdplhhgcpaa
open Go.RowKit Go.Lib Prp Vbi

set_option maxRecDepth 100000 in
set_option maxHeartbeats 4000000 in
theorem putOne_same (k id n : Int) (s v S : ByteArray) (w : World) (hk : kindZ id = k) (hk0 : k ≠ 0) (hn : n ≤ 9223372036854775807) (hs : s.size ≤ 9223372036854775807) (hp : putB k n s v = true)
    (hd : diffB (strip k ⟨id, n, s, v⟩) ⟨id, n, s, v⟩ = false) (hS : oneStr ⟨id, n, s, v⟩ = S) :
    Calls Try.prog 30 #[.agg #[.int .i64 id, .int .i64 n, .string s, .string v]] w fun e w' => e = .returned (.tuple #[.string S, .int .i64 0]) ∧ Below w.heap.size w w' := by
  have hr := kind_range id
  rw [hk] at hr
  obtain ⟨hi1, hi42⟩ := kind_id (id := id) (by rw [hk]; exact hk0)
  obtain ⟨X, hX⟩ : ∃ X, anyOf k ⟨id, n, s, v⟩ = X := ⟨_, rfl⟩
  obtain ⟨T, hT⟩ : ∃ T, valStr k ⟨id, n, s, v⟩ = T := ⟨_, rfl⟩
  obtain ⟨⟨i', n', s', v'⟩, hq⟩ : ∃ q, strip k ⟨id, n, s, v⟩ = q := ⟨_, rfl⟩
  have hz : T.size ≤ 2052 := by rw [← hT]; exact val_size hr.1 hr.2 hk0 hp
  have HK := Lib.hid (fun W => Kind_is id k _ W hk rfl)
  have HV := Lib.hid (fun W => valueOf_is k id n s v X W hX)
  have HP := Lib.hid (fun W => put_yes k id n s v T X W hr.1 hr.2 hk0 hn hs hX hp hT)
  have HO := Lib.hid (fun W => propOf_is k id n i' n' s v s' v' X W hX hq)
  have HS : Hid (strOfNums [id] ++ T = S) := by
    show _ = _
    rw [← hS, ← hT]
    unfold oneStr
    show _ = strOfNums [id] ++ valStr (kindZ id) _
    rw [hk]
  rw [hq] at hd
  have hne := neq_props i' n' id n s' v' s v
  rw [hd] at hne
  have HN := Lib.hid hne
  have hcv := conv_byte
  have hz1 : (strOfNums [id]).size ≤ 1 := by rw [strOfNums_size]; simp
  clear hk hk0 hX hp hr hT hq hd hS hne
  go_enter Try.func30, Try.ntmps30
  go_wp2_with fail
  have HB := Lib.hid (Keep.new w 48 #[.int .i64 id, .int .i64 n, .string s, .string v])
  obtain ⟨g, hg⟩ : ∃ g, w.heap.size = g := ⟨_, rfl⟩
  generalize w.alloc (.cells #[.int .i64 id, .int .i64 n, .string s, .string v] 48) = w0 at HB ⊢
  rw [hg] at HB ⊢
  have HG := Lib.hid hg
  clear hg
  refine (HK.out _).mono ?_
  rintro e w' ⟨rfl, rfl⟩
  obtain ⟨c0, c1, c2, c3⟩ := HB.out.four
  go_wp2_with fail
  refine (HV.out _).mono ?_
  rintro e w1 ⟨rfl, hb1⟩
  have HB1 := Lib.hid (HB.out.below hb1)
  clear c0 c1 c2 c3 hb1 HB HV
  go_wp2_with fail
  refine (HP.out _).mono ?_
  rintro e w2 ⟨rfl, hb2⟩
  have HB2 := HB1.out.below hb2
  clear hb2 HB1 HP
  obtain ⟨c0, c1, c2, c3⟩ := HB2.four
  have hne2 := HN.out
  go_wp2_with fail
  go_region_held3 (fun W => W.cell? ⟨g, 0, none⟩ = some (.int .i64 id) ∧ W.cell? ⟨g, 1, none⟩ = some (.int .i64 n) ∧ W.cell? ⟨g, 2, none⟩ = some (.string s) ∧ W.cell? ⟨g, 3, none⟩ = some (.string v) ∧ Keep w g #[.int .i64 id, .int .i64 n, .string s, .string v] W)
    (first | exact ⟨d0, d1, d2, d3, st⟩ | exact ⟨c0, c1, c2, c3, HB2.drewN 1⟩)
    (first | (go_at_call 49; (with_reducible refine (HO.out _).mono ?_); rintro e w3 ⟨rfl, hb3⟩; have st := (HB2.drewN 1).below hb3; obtain ⟨d0, d1, d2, d3⟩ := st.four))
  have HB3 := Lib.hid st.out.2
  clear hb3 st d1 d2 d3 c0 c1 c2 c3 HB2 hne2 HO HN
  go_wp2_with fail
  go_ret2
  exact ⟨by rw [← HS.out]; rfl, HB3.out.alloc HB3.out.size _⟩
set_option maxRecDepth 100000 in
set_option maxHeartbeats 4000000 in
theorem putOne_diff (k id n : Int) (s v : ByteArray) (w : World) (hk : kindZ id = k) (hk0 : k ≠ 0) (hn : n ≤ 9223372036854775807) (hs : s.size ≤ 9223372036854775807) (hp : putB k n s v = true)
    (hd : diffB (strip k ⟨id, n, s, v⟩) ⟨id, n, s, v⟩ = true) :
    Calls Try.prog 30 #[.agg #[.int .i64 id, .int .i64 n, .string s, .string v]] w fun e w' => e = .returned (.tuple #[.string ⟨#[]⟩, .int .i64 1]) ∧ Below w.heap.size w w' := by
  have hr := kind_range id
  rw [hk] at hr
  obtain ⟨X, hX⟩ : ∃ X, anyOf k ⟨id, n, s, v⟩ = X := ⟨_, rfl⟩
  obtain ⟨T, hT⟩ : ∃ T, valStr k ⟨id, n, s, v⟩ = T := ⟨_, rfl⟩
  obtain ⟨⟨i', n', s', v'⟩, hq⟩ : ∃ q, strip k ⟨id, n, s, v⟩ = q := ⟨_, rfl⟩
  have hz : T.size ≤ 2052 := by rw [← hT]; exact val_size hr.1 hr.2 hk0 hp
  have HK := Lib.hid (fun W => Kind_is id k _ W hk rfl)
  have HV := Lib.hid (fun W => valueOf_is k id n s v X W hX)
  have HP := Lib.hid (fun W => put_yes k id n s v T X W hr.1 hr.2 hk0 hn hs hX hp hT)
  have HO := Lib.hid (fun W => propOf_is k id n i' n' s v s' v' X W hX hq)
  rw [hq] at hd
  have hne := neq_props i' n' id n s' v' s v
  rw [hd] at hne
  have HN := Lib.hid hne
  clear hk hk0 hX hp hr hT hq hd hne
  go_enter Try.func30, Try.ntmps30
  go_wp2_with fail
  have HB := Lib.hid (Keep.new w 48 #[.int .i64 id, .int .i64 n, .string s, .string v])
  obtain ⟨g, hg⟩ : ∃ g, w.heap.size = g := ⟨_, rfl⟩
  generalize w.alloc (.cells #[.int .i64 id, .int .i64 n, .string s, .string v] 48) = w0 at HB ⊢
  rw [hg] at HB ⊢
  have HG := Lib.hid hg
  clear hg
  refine (HK.out _).mono ?_
  rintro e w' ⟨rfl, rfl⟩
  obtain ⟨c0, c1, c2, c3⟩ := HB.out.four
  go_wp2_with fail
  refine (HV.out _).mono ?_
  rintro e w1 ⟨rfl, hb1⟩
  have HB1 := Lib.hid (HB.out.below hb1)
  clear c0 c1 c2 c3 hb1 HB HV
  go_wp2_with fail
  refine (HP.out _).mono ?_
  rintro e w2 ⟨rfl, hb2⟩
  have HB2 := HB1.out.below hb2
  clear hb2 HB1 HP
  obtain ⟨c0, c1, c2, c3⟩ := HB2.four
  have hne2 := HN.out
  go_wp2_with fail
  go_region_held3 (fun W => W.cell? ⟨g, 0, none⟩ = some (.int .i64 id) ∧ W.cell? ⟨g, 1, none⟩ = some (.int .i64 n) ∧ W.cell? ⟨g, 2, none⟩ = some (.string s) ∧ W.cell? ⟨g, 3, none⟩ = some (.string v) ∧ Keep w g #[.int .i64 id, .int .i64 n, .string s, .string v] W)
    (first | exact ⟨d0, d1, d2, d3, st⟩ | exact ⟨c0, c1, c2, c3, HB2.drewN 1⟩)
    (first | (go_at_call 49; (with_reducible refine (HO.out _).mono ?_); rintro e w3 ⟨rfl, hb3⟩; have st := (HB2.drewN 1).below hb3; obtain ⟨d0, d1, d2, d3⟩ := st.four))
  have HB3 := Lib.hid st.out.2
  clear hb3 st d0 d1 d2 d3 c0 c1 c2 c3 HB2 hne2 HO HN
  go_wp2_with fail
  go_ret2
  exact ⟨rfl, HB3.out⟩
/-- A property that is of its kind: its bytes. -/
theorem putOne_yes (id n : Int) (s v S : ByteArray) (w : World) (hk0 : kindZ id ≠ 0) (hn : n ≤ 9223372036854775807) (hs : s.size ≤ 9223372036854775807) (hb : valB (kindZ id) ⟨id, n, s, v⟩ = true) (hS : oneStr ⟨id, n, s, v⟩ = S) :
    Calls Try.prog 30 #[.agg #[.int .i64 id, .int .i64 n, .string s, .string v]] w fun e w' => e = .returned (.tuple #[.string S, .int .i64 0]) ∧ Below w.heap.size w w' := by
  have hr := kind_range id
  rw [val_put _ id n s v hr.1 hr.2 hk0, Bool.and_eq_true, Bool.not_eq_true'] at hb
  exact putOne_same _ id n s v S w rfl hk0 hn hs hb.1 hb.2 hS
/-- One that is not: refused. -/
theorem putOne_no (id n : Int) (s v : ByteArray) (w : World) (hk0 : kindZ id ≠ 0) (hk1 : kindZ id = 1 → n = 0 ∨ n = 1) (hn : n ≤ 9223372036854775807) (hs : s.size ≤ 9223372036854775807) (hv : v.size ≤ 9223372036854775807) (hb : valB (kindZ id) ⟨id, n, s, v⟩ = false) :
    Calls Try.prog 30 #[.agg #[.int .i64 id, .int .i64 n, .string s, .string v]] w fun e w' => e = .returned (.tuple #[.string ⟨#[]⟩, .int .i64 1]) ∧ Below w.heap.size w w' := by
  have hr := kind_range id
  rw [val_put _ id n s v hr.1 hr.2 hk0] at hb
  cases hp : putB (kindZ id) n s v with
  | false => exact putOne_wrong _ id n s v w rfl hk0 hk1 hn hs hv hp
  | true =>
    rw [hp, Bool.true_and, Bool.not_eq_false'] at hb
    exact putOne_diff _ id n s v w rfl hk0 hn hs hp hb
theorem one_size (id n : Int) (s v : ByteArray) (hk0 : kindZ id ≠ 0) (hb : valB (kindZ id) ⟨id, n, s, v⟩ = true) : (oneStr ⟨id, n, s, v⟩).size ≤ 2053 := by
  have hr := kind_range id
  rw [val_put _ id n s v hr.1 hr.2 hk0, Bool.and_eq_true] at hb
  have := val_size (id := id) hr.1 hr.2 hk0 hb.1
  unfold oneStr
  rw [ByteArray.size_append, strOfNums_size]
  show 1 + (valStr (kindZ id) _).size ≤ _
  omega
end Go.Proofs.Ythjlbdplhhgcpaa
