/- Package rec: one part taken; a record with one part more. -/
import Derived.Test.YtimoncjdfmfojaaDoorRcPutBody
namespace Go.Proofs.YtimoncjdfmfojaaDoor
open Go.RowKit Go.Lib Vbi Rcd Crc

theorem bits_and4 : ∀ f : Nat, f < 256 → bits .and .i64 (f : Int) 4 = ((4 * (f / 4 % 2) : Nat) : Int) := by decide +kernel
theorem bits_not4 : ∀ f : Nat, f < 256 → bits .andNot .i64 (f : Int) 4 = ((f - 4 * (f / 4 % 2) : Nat) : Int) := by decide +kernel

set_option maxRecDepth 100000 in
set_option maxHeartbeats 1000000 in
/-- rec.takeByte. -/
theorem takeByte_some (s : ByteArray) (f : UInt8) (t : List UInt8) (w : World) (h : s.data.toList = f :: t) (hm : s.size ≤ 1000000) :
    Calls Tryd.prog 54 #[.string s] w fun e w' => e = .returned (.tuple #[.int .i64 (f.toNat : Int), .int .i64 1, .int .i64 0]) ∧ w = w' := by
  have hl : s.data.toList.length = s.size := by rw [Array.length_toList]; rfl
  have h0 : 0 < s.size := by rw [← hl, h]; simp
  have hne : ¬ s = ⟨#[]⟩ := by intro e; rw [e] at h0; exact absurd h0 (by decide)
  obtain ⟨hi1, hi2⟩ := ne_empty hne
  have hne2 : ¬ s = ByteArray.empty := hne
  have he : s[0]'h0 = f := by
    have := data_at s 0 h0
    rw [List.drop_zero, h] at this
    exact (List.cons.inj this).1.symm
  have hf := f.toNat_lt
  obtain rfl := he
  clear h hl
  go_enter Tryd.func54, Tryd.ntmps54
  go_wp2_with fail
  go_ret3
  exact ⟨rfl, rfl⟩
set_option maxRecDepth 100000 in
set_option maxHeartbeats 1000000 in
theorem takeByte_none (w : World) :
    Calls Tryd.prog 54 #[.string ⟨#[]⟩] w fun e w' => e = .returned (.tuple #[.int .i64 0, .int .i64 0, .int .i64 7]) ∧ w = w' := by
  go_enter Tryd.func54, Tryd.ntmps54
  go_wp2_with fail
  go_ret3
  exact ⟨rfl, rfl⟩

set_option maxRecDepth 100000 in
set_option maxHeartbeats 4000000 in
/-- rec.take, of a long number. -/
theorem take_long (p : Int) (s : ByteArray) (N K E : Int) (w : World) (hp : p = 111 ∨ p = 116)
    (h : ∀ W, Calls Tryd.prog 53 #[.string s] W fun e w' => e = .returned (.tuple #[.int .i64 N, .int .i64 K, .int .i64 E]) ∧ W = w') :
    Calls Tryd.prog 50 #[.int .i32 p, .string s] w fun e w' => e = .returned (.tuple #[.iface 3 (.int .i64 N), .int .i64 K, .int .i64 E]) ∧ Below w.heap.size w w' := by
  have H := Lib.hid h
  clear h
  rcases hp with rfl | rfl
  all_goals
    go_enter Tryd.func50, Tryd.ntmps50
    go_wp2_with fail
    refine (H.out _).mono ?_
    rintro e w1 ⟨rfl, rfl⟩
    go_wp2_with fail
    go_ret3
    exact ⟨rfl, Below.refl _ _⟩
set_option maxRecDepth 100000 in
set_option maxHeartbeats 4000000 in
/-- rec.take, of a byte. -/
theorem take_byte (s : ByteArray) (N K E : Int) (w : World)
    (h : ∀ W, Calls Tryd.prog 54 #[.string s] W fun e w' => e = .returned (.tuple #[.int .i64 N, .int .i64 K, .int .i64 E]) ∧ W = w') :
    Calls Tryd.prog 50 #[.int .i32 102, .string s] w fun e w' => e = .returned (.tuple #[.iface 3 (.int .i64 N), .int .i64 K, .int .i64 E]) ∧ Below w.heap.size w w' := by
  have H := Lib.hid h
  clear h
  go_enter Tryd.func50, Tryd.ntmps50
  go_wp2_with fail
  refine (H.out _).mono ?_
  rintro e w1 ⟨rfl, rfl⟩
  go_wp2_with fail
  go_ret3
  exact ⟨rfl, Below.refl _ _⟩
set_option maxRecDepth 100000 in
set_option maxHeartbeats 4000000 in
/-- rec.take, of bytes with their length. -/
theorem take_key (s S : ByteArray) (K E : Int) (w : World) (hm : s.size ≤ 1000000) (h : tb s = (S, K, E)) :
    Calls Tryd.prog 50 #[.int .i32 107, .string s] w fun e w' => e = .returned (.tuple #[.iface 9 (.string S), .int .i64 K, .int .i64 E]) ∧ Below w.heap.size w w' := by
  have H := Lib.hid (fun W => TakeBin_is s S K E W (by omega) h)
  clear h
  go_enter Tryd.func50, Tryd.ntmps50
  go_wp2_with fail
  refine (H.out _).mono ?_
  rintro e w1 ⟨rfl, hb1⟩
  go_wp2_with fail
  go_ret3
  exact ⟨rfl, hb1⟩
set_option maxRecDepth 100000 in
set_option maxHeartbeats 4000000 in
/-- rec.take, of all that is left. -/
theorem take_rest (s : ByteArray) (w : World) (hm : s.size ≤ 1000000) :
    Calls Tryd.prog 50 #[.int .i32 98, .string s] w fun e w' => e = .returned (.tuple #[.iface 9 (.string s), .int .i64 (s.size : Int), .int .i64 0]) ∧ Below w.heap.size w w' := by
  have H := Lib.hid (fun W => Clone_same s W (by omega))
  go_enter Tryd.func50, Tryd.ntmps50
  go_wp2_with fail
  refine (H.out _).mono ?_
  rintro e w1 ⟨rfl, hb1⟩
  go_wp2_with fail
  go_ret3
  exact ⟨rfl, hb1⟩

/-- What 'with' leaves behind its stores: the record in its box, the result's cell as it began. -/
structure WB (w : World) (g : Nat) (cs : Array Value) (W : World) : Prop where
  box : Blk W g cs
  res : Blk W (g + 1) zcells
  bel : Below w.heap.size w W
  lo : w.heap.size ≤ g
theorem WB.start (w : World) (cs : Array Value) : WB w w.heap.size cs ((w.alloc (.cells cs 28)).alloc (.cells zcells 28)) := by
  have h1 := Blk.new w 28 cs
  have z0 : (w.alloc (.cells cs 28)).heap.size = w.heap.size + 1 := by simp
  have x0 : Below w.heap.size w (w.alloc (.cells cs 28)) := (Below.refl _ _).alloc (Nat.le_refl _) _
  generalize w.alloc (.cells cs 28) = w1 at h1 z0 x0 ⊢
  have h2 := Blk.new w1 28 zcells
  rw [z0] at h2
  exact ⟨h1.alloc _, h2, x0.alloc (by omega) _, Nat.le_refl _⟩
theorem WB.put {w W : World} {g : Nat} {cs : Array Value} (h : WB w g cs W) (i : Nat) (v : Value) : WB w g (cs.setIfInBounds i v) (W.setCell ⟨g, i, none⟩ v) :=
  ⟨h.box.put i v, h.res.far (by simp) v, h.bel.setCell (p := ⟨g, i, none⟩) h.lo v, h.lo⟩
theorem WB.row {w W : World} {g : Nat} {cs : Array Value} (h : WB w g cs W) (ds : Array Value) : Blk (W.setRow (g + 1) ds) (g + 1) ds ∧ Below w.heap.size w (W.setRow (g + 1) ds) :=
  ⟨h.res.row ds, below_row h.bel (by have := h.lo; omega) ds⟩

set_option maxRecDepth 100000 in
set_option maxHeartbeats 4000000 in
theorem with_o (o t : Int) (k b : ByteArray) (q : Int) (g : Bool) (n : Int) (w : World) :
    Calls Tryd.prog 51 #[.agg (rarr o t k b q g), .int .i32 111, .iface 3 (.int .i64 n)] w fun e w' => e = .returned (.agg (rarr n t k b q g)) ∧ Below w.heap.size w w' := by
  have R0 := Lib.hid (WB.start w (rarr o t k b q g))
  have hai := as_int
  have has := as_string
  obtain ⟨W0, hW⟩ : ∃ W0, (w.alloc (.cells (rarr o t k b q g) 28)).alloc (.cells zcells 28) = W0 := ⟨_, rfl⟩
  rw [hW] at R0
  unfold rarr zcells at hW
  unfold rarr at R0 ⊢
  have HW := Lib.hid hW
  clear hW
  go_enter Tryd.func51, Tryd.ntmps51
  go_upto_region 1 with fail
  rw [HW.out]
  clear HW
  obtain ⟨p, hp⟩ : ∃ p, w.heap.size = p := ⟨_, rfl⟩
  rw [hp] at R0
  rw [hp]
  clear hp
  have d0 : W0.cell? ⟨p, 0, none⟩ = some (.int .i64 o) := R0.out.box.cell 0
  have f0 : W0.frozen? ⟨p, 0, none⟩ = false := R0.out.box.frozen 0
  have R1 := Lib.hid ((R0.out).put 0 (.int .i64 n))
  simp only [List.setIfInBounds_toArray, List.set_cons_zero, List.set_cons_succ] at R1
  go_upto_region 14 with fail
  generalize World.setCell _ _ _ = W1 at R1 ⊢
  clear d0 f0
  have hld := load_blk R1.out.box rfl
  have hr := R1.out.row (rarr n t k b q g)
  unfold rarr at hr
  have HR := Lib.hid hr
  clear R0 hr
  go_wp2_with (first | (refine wpList_load_any (by rfl) 28 (.tmp 3) rfl p 0 rfl _ hld ?_; simp only [Act.put]) | (refine wpList_store_whole rfl 28 (.tmp 6) (.tmp 40) rfl (p + 1) _ rfl rfl zcells R1.out.res info_rec rfl (one_arr _ _ _ _ _ _) ?_; simp only [Act.put]))
  refine bodyPost_ret (results_rec Tryd.results51 rfl HR.out.1 rfl) rfl ⟨rfl, HR.out.2⟩
set_option maxRecDepth 100000 in
set_option maxHeartbeats 4000000 in
theorem with_t (o t : Int) (k b : ByteArray) (q : Int) (g : Bool) (n : Int) (w : World) :
    Calls Tryd.prog 51 #[.agg (rarr o t k b q g), .int .i32 116, .iface 3 (.int .i64 n)] w fun e w' => e = .returned (.agg (rarr o n k b q g)) ∧ Below w.heap.size w w' := by
  have R0 := Lib.hid (WB.start w (rarr o t k b q g))
  have hai := as_int
  have has := as_string
  obtain ⟨W0, hW⟩ : ∃ W0, (w.alloc (.cells (rarr o t k b q g) 28)).alloc (.cells zcells 28) = W0 := ⟨_, rfl⟩
  rw [hW] at R0
  unfold rarr zcells at hW
  unfold rarr at R0 ⊢
  have HW := Lib.hid hW
  clear hW
  go_enter Tryd.func51, Tryd.ntmps51
  go_upto_region 1 with fail
  rw [HW.out]
  clear HW
  obtain ⟨p, hp⟩ : ∃ p, w.heap.size = p := ⟨_, rfl⟩
  rw [hp] at R0
  rw [hp]
  clear hp
  have d1 : W0.cell? ⟨p, 1, none⟩ = some (.int .i64 t) := R0.out.box.cell 1
  have f1 : W0.frozen? ⟨p, 1, none⟩ = false := R0.out.box.frozen 1
  have R1 := Lib.hid ((R0.out).put 1 (.int .i64 n))
  simp only [List.setIfInBounds_toArray, List.set_cons_zero, List.set_cons_succ] at R1
  go_upto_region 14 with fail
  generalize World.setCell _ _ _ = W1 at R1 ⊢
  clear d1 f1
  have hld := load_blk R1.out.box rfl
  have hr := R1.out.row (rarr o n k b q g)
  unfold rarr at hr
  have HR := Lib.hid hr
  clear R0 hr
  go_wp2_with (first | (refine wpList_load_any (by rfl) 28 (.tmp 3) rfl p 0 rfl _ hld ?_; simp only [Act.put]) | (refine wpList_store_whole rfl 28 (.tmp 6) (.tmp 40) rfl (p + 1) _ rfl rfl zcells R1.out.res info_rec rfl (one_arr _ _ _ _ _ _) ?_; simp only [Act.put]))
  refine bodyPost_ret (results_rec Tryd.results51 rfl HR.out.1 rfl) rfl ⟨rfl, HR.out.2⟩
set_option maxRecDepth 100000 in
set_option maxHeartbeats 4000000 in
theorem with_k (o t : Int) (k b : ByteArray) (q : Int) (g : Bool) (s : ByteArray) (w : World) :
    Calls Tryd.prog 51 #[.agg (rarr o t k b q g), .int .i32 107, .iface 9 (.string s)] w fun e w' => e = .returned (.agg (rarr o t s b q g)) ∧ Below w.heap.size w w' := by
  have R0 := Lib.hid (WB.start w (rarr o t k b q g))
  have hai := as_int
  have has := as_string
  obtain ⟨W0, hW⟩ : ∃ W0, (w.alloc (.cells (rarr o t k b q g) 28)).alloc (.cells zcells 28) = W0 := ⟨_, rfl⟩
  rw [hW] at R0
  unfold rarr zcells at hW
  unfold rarr at R0 ⊢
  have HW := Lib.hid hW
  clear hW
  go_enter Tryd.func51, Tryd.ntmps51
  go_upto_region 1 with fail
  rw [HW.out]
  clear HW
  obtain ⟨p, hp⟩ : ∃ p, w.heap.size = p := ⟨_, rfl⟩
  rw [hp] at R0
  rw [hp]
  clear hp
  have d2 : W0.cell? ⟨p, 2, none⟩ = some (.string k) := R0.out.box.cell 2
  have f2 : W0.frozen? ⟨p, 2, none⟩ = false := R0.out.box.frozen 2
  have R1 := Lib.hid ((R0.out).put 2 (.string s))
  simp only [List.setIfInBounds_toArray, List.set_cons_zero, List.set_cons_succ] at R1
  go_upto_region 14 with fail
  generalize World.setCell _ _ _ = W1 at R1 ⊢
  clear d2 f2
  have hld := load_blk R1.out.box rfl
  have hr := R1.out.row (rarr o t s b q g)
  unfold rarr at hr
  have HR := Lib.hid hr
  clear R0 hr
  go_wp2_with (first | (refine wpList_load_any (by rfl) 28 (.tmp 3) rfl p 0 rfl _ hld ?_; simp only [Act.put]) | (refine wpList_store_whole rfl 28 (.tmp 6) (.tmp 40) rfl (p + 1) _ rfl rfl zcells R1.out.res info_rec rfl (one_arr _ _ _ _ _ _) ?_; simp only [Act.put]))
  refine bodyPost_ret (results_rec Tryd.results51 rfl HR.out.1 rfl) rfl ⟨rfl, HR.out.2⟩
set_option maxRecDepth 100000 in
set_option maxHeartbeats 4000000 in
theorem with_b (o t : Int) (k b : ByteArray) (q : Int) (g : Bool) (s : ByteArray) (w : World) :
    Calls Tryd.prog 51 #[.agg (rarr o t k b q g), .int .i32 98, .iface 9 (.string s)] w fun e w' => e = .returned (.agg (rarr o t k s q g)) ∧ Below w.heap.size w w' := by
  have R0 := Lib.hid (WB.start w (rarr o t k b q g))
  have hai := as_int
  have has := as_string
  obtain ⟨W0, hW⟩ : ∃ W0, (w.alloc (.cells (rarr o t k b q g) 28)).alloc (.cells zcells 28) = W0 := ⟨_, rfl⟩
  rw [hW] at R0
  unfold rarr zcells at hW
  unfold rarr at R0 ⊢
  have HW := Lib.hid hW
  clear hW
  go_enter Tryd.func51, Tryd.ntmps51
  go_upto_region 1 with fail
  rw [HW.out]
  clear HW
  obtain ⟨p, hp⟩ : ∃ p, w.heap.size = p := ⟨_, rfl⟩
  rw [hp] at R0
  rw [hp]
  clear hp
  have d3 : W0.cell? ⟨p, 3, none⟩ = some (.string b) := R0.out.box.cell 3
  have f3 : W0.frozen? ⟨p, 3, none⟩ = false := R0.out.box.frozen 3
  have R1 := Lib.hid ((R0.out).put 3 (.string s))
  simp only [List.setIfInBounds_toArray, List.set_cons_zero, List.set_cons_succ] at R1
  go_upto_region 14 with fail
  generalize World.setCell _ _ _ = W1 at R1 ⊢
  clear d3 f3
  have hld := load_blk R1.out.box rfl
  have hr := R1.out.row (rarr o t k s q g)
  unfold rarr at hr
  have HR := Lib.hid hr
  clear R0 hr
  go_wp2_with (first | (refine wpList_load_any (by rfl) 28 (.tmp 3) rfl p 0 rfl _ hld ?_; simp only [Act.put]) | (refine wpList_store_whole rfl 28 (.tmp 6) (.tmp 40) rfl (p + 1) _ rfl rfl zcells R1.out.res info_rec rfl (one_arr _ _ _ _ _ _) ?_; simp only [Act.put]))
  refine bodyPost_ret (results_rec Tryd.results51 rfl HR.out.1 rfl) rfl ⟨rfl, HR.out.2⟩
set_option maxRecDepth 100000 in
set_option maxHeartbeats 4000000 in
theorem with_f1 (o t : Int) (k b : ByteArray) (q : Int) (g : Bool) (f : Nat) (Q : Int) (w : World) (ha : bits .and .i64 (f : Int) 4 = 4) (hn : bits .andNot .i64 (f : Int) 4 = Q) :
    Calls Tryd.prog 51 #[.agg (rarr o t k b q g), .int .i32 102, .iface 3 (.int .i64 (f : Int))] w fun e w' => e = .returned (.agg (rarr o t k b Q true)) ∧ Below w.heap.size w w' := by
  have R0 := Lib.hid (WB.start w (rarr o t k b q g))
  have hai := as_int
  have has := as_string
  obtain ⟨W0, hW⟩ : ∃ W0, (w.alloc (.cells (rarr o t k b q g) 28)).alloc (.cells zcells 28) = W0 := ⟨_, rfl⟩
  rw [hW] at R0
  unfold rarr zcells at hW
  unfold rarr at R0 ⊢
  have HW := Lib.hid hW
  clear hW
  go_enter Tryd.func51, Tryd.ntmps51
  go_upto_region 1 with fail
  rw [HW.out]
  clear HW
  obtain ⟨p, hp⟩ : ∃ p, w.heap.size = p := ⟨_, rfl⟩
  rw [hp] at R0
  rw [hp]
  clear hp
  have d5 : W0.cell? ⟨p, 5, none⟩ = some (.bool g) := R0.out.box.cell 5
  have f5 : W0.frozen? ⟨p, 5, none⟩ = false := R0.out.box.frozen 5
  have d4 : W0.cell? ⟨p, 4, none⟩ = some (.int .i64 q) := R0.out.box.cell 4
  have f4 : W0.frozen? ⟨p, 4, none⟩ = false := R0.out.box.frozen 4
  have R1 := Lib.hid (((R0.out).put 5 (.bool true)).put 4 (.int .i64 Q))
  simp only [List.setIfInBounds_toArray, List.set_cons_zero, List.set_cons_succ] at R1
  go_upto_region 14 with fail
  generalize World.setCell _ _ _ = W1 at R1 ⊢
  clear d5 f5 d4 f4
  have hld := load_blk R1.out.box rfl
  have hr := R1.out.row (rarr o t k b Q true)
  unfold rarr at hr
  have HR := Lib.hid hr
  clear R0 hr
  go_wp2_with (first | (refine wpList_load_any (by rfl) 28 (.tmp 3) rfl p 0 rfl _ hld ?_; simp only [Act.put]) | (refine wpList_store_whole rfl 28 (.tmp 6) (.tmp 40) rfl (p + 1) _ rfl rfl zcells R1.out.res info_rec rfl (one_arr _ _ _ _ _ _) ?_; simp only [Act.put]))
  refine bodyPost_ret (results_rec Tryd.results51 rfl HR.out.1 rfl) rfl ⟨rfl, HR.out.2⟩
set_option maxRecDepth 100000 in
set_option maxHeartbeats 4000000 in
theorem with_f0 (o t : Int) (k b : ByteArray) (q : Int) (g : Bool) (f : Nat) (Q : Int) (w : World) (ha : bits .and .i64 (f : Int) 4 = 0) (hn : bits .andNot .i64 (f : Int) 4 = Q) :
    Calls Tryd.prog 51 #[.agg (rarr o t k b q g), .int .i32 102, .iface 3 (.int .i64 (f : Int))] w fun e w' => e = .returned (.agg (rarr o t k b Q false)) ∧ Below w.heap.size w w' := by
  have R0 := Lib.hid (WB.start w (rarr o t k b q g))
  have hai := as_int
  have has := as_string
  obtain ⟨W0, hW⟩ : ∃ W0, (w.alloc (.cells (rarr o t k b q g) 28)).alloc (.cells zcells 28) = W0 := ⟨_, rfl⟩
  rw [hW] at R0
  unfold rarr zcells at hW
  unfold rarr at R0 ⊢
  have HW := Lib.hid hW
  clear hW
  go_enter Tryd.func51, Tryd.ntmps51
  go_upto_region 1 with fail
  rw [HW.out]
  clear HW
  obtain ⟨p, hp⟩ : ∃ p, w.heap.size = p := ⟨_, rfl⟩
  rw [hp] at R0
  rw [hp]
  clear hp
  have d5 : W0.cell? ⟨p, 5, none⟩ = some (.bool g) := R0.out.box.cell 5
  have f5 : W0.frozen? ⟨p, 5, none⟩ = false := R0.out.box.frozen 5
  have d4 : W0.cell? ⟨p, 4, none⟩ = some (.int .i64 q) := R0.out.box.cell 4
  have f4 : W0.frozen? ⟨p, 4, none⟩ = false := R0.out.box.frozen 4
  have R1 := Lib.hid (((R0.out).put 5 (.bool false)).put 4 (.int .i64 Q))
  simp only [List.setIfInBounds_toArray, List.set_cons_zero, List.set_cons_succ] at R1
  go_upto_region 14 with fail
  generalize World.setCell _ _ _ = W1 at R1 ⊢
  clear d5 f5 d4 f4
  have hld := load_blk R1.out.box rfl
  have hr := R1.out.row (rarr o t k b Q false)
  unfold rarr at hr
  have HR := Lib.hid hr
  clear R0 hr
  go_wp2_with (first | (refine wpList_load_any (by rfl) 28 (.tmp 3) rfl p 0 rfl _ hld ?_; simp only [Act.put]) | (refine wpList_store_whole rfl 28 (.tmp 6) (.tmp 40) rfl (p + 1) _ rfl rfl zcells R1.out.res info_rec rfl (one_arr _ _ _ _ _ _) ?_; simp only [Act.put]))
  refine bodyPost_ret (results_rec Tryd.results51 rfl HR.out.1 rfl) rfl ⟨rfl, HR.out.2⟩
/-- rec.with, of flags. -/
theorem with_f (r : Rc) (f : Nat) (w : World) (hf : f < 256) :
    Calls Tryd.prog 51 #[ragg r, .int .i32 102, .iface 3 (.int .i64 (f : Int))] w fun e w' => e = .returned (ragg (flagged r f)) ∧ Below w.heap.size w w' := by
  have h1 := bits_and4 f hf
  have h2 := bits_not4 f hf
  unfold ragg flagged
  by_cases h : f / 4 % 2 = 1
  · rw [h] at h1 h2
    have e1 : decide (f / 4 % 2 = 1) = true := decide_eq_true h
    dsimp only
    rw [e1, h]
    exact with_f1 r.o r.t (str r.k) (str r.b) r.q r.g f _ w h1 h2
  · have h0 : f / 4 % 2 = 0 := by omega
    rw [h0] at h1 h2
    have e1 : decide (f / 4 % 2 = 1) = false := decide_eq_false h
    dsimp only
    rw [e1, h0]
    exact with_f0 r.o r.t (str r.k) (str r.b) r.q r.g f _ w h1 h2
end Go.Proofs.YtimoncjdfmfojaaDoor
