/- Package rec: the bytes of a record that may be. -/
import Derived.Test.YtimoncjdfmfojaaDoorRcCheck
import Derived.Test.YtimoncjdfmfojaaDoorRcLong
import Derived.Test.YtimoncjdfmfojaaDoorRcBin
import Derived.Test.YtimoncjdfmfojaaDoorRcBuild
import Derived.Test.YtimoncjdfmfojaaDoorSumSum
namespace Go.Proofs.YtimoncjdfmfojaaDoor
open Go.RowKit Go.Lib Vbi Rcd Crc

theorem as_int (v : Value) (w : World) : (Instr.typeAssert (.iface 3 v) 20 3 false).run Tryd.prog w = .ok v w := by kernel_rfl
theorem as_string (v : Value) (w : World) : (Instr.typeAssert (.iface 9 v) 20 9 false).run Tryd.prog w = .ok v w := by kernel_rfl

set_option maxRecDepth 100000 in
set_option maxHeartbeats 4000000 in
/-- rec.valueOf, part by part. -/
theorem valueOf_is (o t : Int) (k b : ByteArray) (q : Nat) (g : Bool) (F : Nat) (p : Int) (V : Value) (w : World) (hq : q < 3) (hF : (q + if g then 4 else 0) = F)
    (hp : (p = 111 ∧ V = .iface 3 (.int .i64 o)) ∨ (p = 116 ∧ V = .iface 3 (.int .i64 t)) ∨ (p = 102 ∧ V = .iface 3 (.int .i64 (F : Int))) ∨ (p = 107 ∧ V = .iface 9 (.string k)) ∨ (p = 98 ∧ V = .iface 9 (.string b))) :
    Calls Tryd.prog 37 #[.int .i32 p, .agg (rarr o t k b (q : Int) g)] w fun e w' => e = .returned V ∧ Below w.heap.size w w' := by
  have HG := Lib.hid (fun W => flagsOf_is o t k b q g F W hq hF)
  have R0 := Lib.hid (RBox.new w 28 (rarr o t k b (q : Int) g))
  obtain ⟨W0, hW⟩ : ∃ W0, w.alloc (.cells (rarr o t k b (q : Int) g) 28) = W0 := ⟨_, rfl⟩
  rw [hW] at R0
  unfold rarr at hW R0 HG ⊢
  have HW := Lib.hid hW
  clear hW hF hq
  rcases hp with ⟨rfl, rfl⟩ | ⟨rfl, rfl⟩ | ⟨rfl, rfl⟩ | ⟨rfl, rfl⟩ | ⟨rfl, rfl⟩
  all_goals
    go_enter Tryd.func37, Tryd.ntmps37
    go_upto_region 1 with fail
    rw [HW.out]
    clear HW
    generalize Value.agg _ = v1
    obtain ⟨p, hp⟩ : ∃ p, w.heap.size = p := ⟨_, rfl⟩
    rw [hp] at R0 ⊢
    clear hp
    have hld := R0.out.load rfl
    have d0 : W0.cell? ⟨p, 0, none⟩ = some (.int .i64 o) := R0.out.cell 0
    have d1 : W0.cell? ⟨p, 1, none⟩ = some (.int .i64 t) := R0.out.cell 1
    have d2 : W0.cell? ⟨p, 2, none⟩ = some (.string k) := R0.out.cell 2
    have d3 : W0.cell? ⟨p, 3, none⟩ = some (.string b) := R0.out.cell 3
  · go_wp2_with fail
    go_ret
    exact ⟨rfl, R0.out.out.2⟩
  · go_wp2_with fail
    go_ret
    exact ⟨rfl, R0.out.out.2⟩
  · go_wp2_with (refine wpList_load_any (by rfl) 28 (.tmp 3) rfl p 0 rfl _ hld ?_; simp only [Act.put])
    refine (HG.out _).mono ?_
    rintro e w1 ⟨rfl, hb1⟩
    go_wp2_with fail
    go_ret
    exact ⟨rfl, R0.out.out.2.trans (hb1.mono R0.out.out.2.size)⟩
  · go_wp2_with fail
    go_ret
    exact ⟨rfl, R0.out.out.2⟩
  · go_wp2_with fail
    go_ret
    exact ⟨rfl, R0.out.out.2⟩

theorem byte_str (F : Nat) (h : F < 256) : strOfNums [(F : Int)] = str [UInt8.ofNat F] := by rw [str_nums]; unfold bytesOf; rw [List.map_cons, List.map_nil, Int.toNat_natCast]
set_option maxRecDepth 100000 in
set_option maxHeartbeats 4000000 in
/-- rec.put, part by part. -/
theorem put_is (p : Int) (V : Value) (S : ByteArray) (w : World)
    (hp : ((p = 111 ∨ p = 116) ∧ ∃ n : Nat, n < 9223372036854775808 ∧ V = .iface 3 (.int .i64 (n : Int)) ∧ str (fx 8 n) = S) ∨ (p = 102 ∧ ∃ F : Nat, F < 8 ∧ V = .iface 3 (.int .i64 (F : Int)) ∧ str [UInt8.ofNat F] = S) ∨
      (p = 107 ∧ ∃ k : ByteArray, k.size ≤ 1024 ∧ V = .iface 9 (.string k) ∧ str (fx 2 k.size ++ k.data.toList) = S) ∨ (p = 98 ∧ V = .iface 9 (.string S))) :
    Calls Tryd.prog 36 #[.int .i32 p, V] w fun e w' => e = .returned (.string S) ∧ Below w.heap.size w w' := by
  have hai := as_int
  have has := as_string
  rcases hp with ⟨hp, n, hn, rfl, hS⟩ | ⟨rfl, F, hF, rfl, hS⟩ | ⟨rfl, k, hk, rfl, hS⟩ | ⟨rfl, rfl⟩
  · have HP := Lib.hid (fun W => putLong_is n S W hn hS)
    clear hS hn
    rcases hp with rfl | rfl
    all_goals
      go_enter Tryd.func36, Tryd.ntmps36
      go_wp2_with fail
      refine (HP.out _).mono ?_
      rintro e w1 ⟨rfl, hb1⟩
      go_wp2_with fail
      go_ret
      exact ⟨rfl, hb1⟩
  · rw [← byte_str F (by omega)] at hS
    subst hS
    have hcv : (convert 50 9 (.slice (some ⟨w.heap.size, 0, none⟩) 1 1)).run Tryd.prog (w.alloc (.cells #[.int .u8 (F : Int)] 5)) = .ok (.string (strOfNums [(F : Int)])) (w.alloc (.cells #[.int .u8 (F : Int)] 5)) := by
      have hl := lit_nums w #[.int .u8 (F : Int)] [(F : Int)] .u8 5 rfl
      obtain ⟨a, ha, _, hc⟩ := hl.some_ (by simp)
      injection ha with ha
      subst ha
      exact run_convert_bytes_arg _ 50 5 Tryd.underlying50 Tryd.underlying5 w.heap.size 0 1 1 [(F : Int)] rfl (fun i hi => by
        have := hc i (by simpa using hi)
        rw [add_new] at this
        rw [Nat.zero_add]; exact this) 9 Tryd.underlying9
    have hF1 : (F : Int) < 256 := by omega
    go_enter Tryd.func36, Tryd.ntmps36
    go_wp2_with fail
    go_ret
    exact ⟨rfl, (Below.refl _ _).alloc (Nat.le_refl _) _⟩
  · rw [← str_add, ← str_fx, data_str] at hS
    have HB := Lib.hid (fun W => Bin_good k S W hk hS)
    clear hS
    go_enter Tryd.func36, Tryd.ntmps36
    go_wp2_with fail
    refine (HB.out _).mono ?_
    rintro e w1 ⟨rfl, hb1⟩
    go_wp2_with fail
    go_ret
    exact ⟨rfl, hb1⟩
  · go_enter Tryd.func36, Tryd.ntmps36
    go_wp2_with fail
    go_ret
    exact ⟨rfl, Below.refl _ _⟩

set_option maxRecDepth 100000 in
set_option maxHeartbeats 1000000 in
/-- rec.sealOf. -/
theorem sealOf_is (a b : ByteArray) (N : Nat) (w : World) (ha : a.size ≤ 1000000) (hb : b.size ≤ 1000000) (ht : Tab w) (hN : sumN 0 (a.data.toList ++ b.data.toList) = N) :
    Calls Tryd.prog 30 #[.string a, .string b] w fun e w' => e = .returned (.int .i64 (N : Int)) ∧ Below w.heap.size w w' := by
  obtain ⟨M, hM⟩ : ∃ M, sumN 0 a.data.toList = M := ⟨_, rfl⟩
  have hM32 : M < 4294967296 := by rw [← hM]; exact sum_lt _ _
  have hN32 : N < 4294967296 := by rw [← hN]; exact sum_lt _ _
  rw [← sum_append, hM] at hN
  have H1 := Lib.hid (Sum_is 0 a M w (by omega) (by omega) ht hM)
  have H2 := Lib.hid (fun W (h : Below w.heap.size w W) => Sum_is M b N W hM32 (by omega) (ht.below h) hN)
  clear ht hM hN
  go_enter Tryd.func30, Tryd.ntmps30
  go_wp2_with fail
  refine H1.out.mono ?_
  rintro e w1 ⟨rfl, hb1⟩
  go_wp2_with fail
  refine (H2.out _ hb1).mono ?_
  rintro e w2 ⟨rfl, hb2⟩
  go_wp2_with fail
  go_ret
  exact ⟨rfl, hb1.trans (hb2.mono hb1.size)⟩
end Go.Proofs.YtimoncjdfmfojaaDoor
